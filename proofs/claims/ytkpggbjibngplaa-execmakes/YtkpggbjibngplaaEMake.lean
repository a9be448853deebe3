/-
  exec.New, ITS DOCUMENT'S LIKE, AND made.
-/
import Derived.Test.YtkpggbjibngplaaEExec
import Derived.Test.YtkpggbjibngplaaEParts
namespace Go.Proofs.Ytkpggbjibngplaa
open Go.RowKit Go.Sort

def exE (Ps : List Pr) (k : Int) : Int := if (checkN Ps).2 ≠ 0 then (checkN Ps).2 else if k < 1 ∨ 64 < k then 120 else 0
theorem wpList_appX {w : World} {ops : Array Oper} {rest : List Oper} {o : Oper} {a : Act} {Q : Exit → Act → World → Prop} (hgd : o.guard = none) (s x : Operand) (t e : TypeId) (i0 : TypeInfo) (z : Value) (size bytes : Nat) (ht : Try.prog.underlying t = some (.slice e)) (hi : Try.prog.info? e = some i0) (hz0 : i0.zero = some z) (hz1 : i0.size = size) (hz2 : i0.bytes = bytes) (hzs : z.cells.size = size) (hsz : 0 < size)
    (ho : o.op = .call { callee := .builtin .append, args := #[s, x], argTypes := #[t, t] }) (base : Nat) (v : Value) (n : Nat) (xs : List Value) (hs : a.eval s = v) (hown : w.ownsRow base e size v n xs)
    (ad : Addr) (m c : Nat) (ys : List Value) (hx : a.eval x = .slice (some ad) m c) (hl : ys.length = m * size) (hc : ∀ j u, ys[j]? = some u → w.cell? (ad.add j) = some u) (h1 : ∀ u ∈ ys, u.oneCell' = true) (hm : n + m ≤ maxLen) (hb : (n + m) * bytes ≤ 140737488355328) (hbase : base ≤ w.heap.size)
    (h : ∀ v' w', w'.ownsRow base e size v' (n + m) (xs ++ ys) → w.grownBy w' v.ownBlock → (v'.ownBlock = v.ownBlock ∨ v'.ownBlock = some w.heap.size) → wpList Try.prog ops Q rest (a.put o.dst v') w') : wpList Try.prog ops Q (o :: rest) a w := by
  obtain ⟨v', w', hr, h2, h3, _, h5⟩ := run_append_own_at (P := Try.prog) w base t o.type e i0 z size bytes ht hi hz0 hz1 hz2 hzs hsz v n xs hown ad m c ys hl hc h1 hm hb hbase
  refine wpList_plain hgd fun K hK' => ?_
  unfold Oper.wp
  simp [execOp, ho, resolve, invoke, builtin, hs, hx, hr, Result.andThen]
  exact hK' _ _ (h v' w' h2 h3 h5)
theorem infoHd : (Try.prog.info? 88).map (fun i => (i.zero, i.size, i.bytes)) = some (some (.pointer none), 1, 8) := by kernel_rfl
/-- the hands so far -/
structure HdI (n0 X : Nat) (W : World) (v : Value) (i : Nat) : Prop where
  bx : W.heap[X]? = some (.cells #[v] 87 (0, 0))
  own : ∃ xs, W.ownsRow (X + 1) 88 1 v i xs
set_option maxRecDepth 100000 in
set_option maxHeartbeats 1000000 in
theorem exNew (w : World) (B S : Nat) (ao : Option Addr) (n cap : Nat) (Ps : List Pr) (h : LibAt w ao Ps) (hn : n = Ps.length) (hnil : Ps = [] → ao = none → cap = 0) (hc : n ≤ cap) (hm : n ≤ 100000) (k : Int) :
    Calls Try.prog 12 #[pt B, pt S, .slice ao n cap, .int .i64 k] w fun e w' => NP w (exE Ps k) e w' := by
  have HCk := check_any w ao n cap Ps h hn hc (by omega)
  have HCd : Hid (∀ W, Below w.heap.size w W → Calls Try.prog 18 #[.slice ao n cap] W fun e w' => ∃ a c, e = .returned (.slice a n c) ∧ Below W.heap.size W w') := fun W hW => copied_any W ao n cap Ps (h.kept hW) hn hnil hm
  clear h hn hnil hc hm
  have hex : exE Ps k = if (checkN Ps).2 ≠ 0 then (checkN Ps).2 else if k < 1 ∨ 64 < k then 120 else 0 := rfl
  generalize exE Ps k = er at *
  generalize (checkN Ps).1 = k1 at *
  generalize (checkN Ps).2 = k2 at *
  have HEx := hidX hex
  clear hex
  go_enter Try.func12, Try.ntmps12
  go_wp2_with fail
  refine HCk.mono ?_
  clear HCk
  rintro e w1 ⟨rfl, hb1⟩
  have HB1 : Hid (Below w.heap.size w w1) := hb1
  clear hb1
  have hex := HEx.out
  clear HEx
  by_cases h0 : k2 = 0
  · subst h0
    rw [if_neg (by simp)] at hex
    by_cases h1 : k < 1
    · have HX : Hid (NP w er (.returned (.tuple #[.pointer none, .int .i64 120])) w1) := by rw [hex, if_pos (.inl h1)]; exact NP.bad (by decide) HB1.out
      clear hex
      go_wp2
      go_ret2
      exact HX.out
    by_cases h2 : 64 < k
    · have HX : Hid (NP w er (.returned (.tuple #[.pointer none, .int .i64 120])) w1) := by rw [hex, if_pos (.inr h2)]; exact NP.bad (by decide) HB1.out
      clear hex
      go_wp2
      go_ret2
      exact HX.out
    have HE : Hid (er = 0) := by show _ = _; rw [hex, if_neg (by omega)]
    obtain ⟨m, rfl⟩ : ∃ m : Nat, k = m := ⟨k.toNat, by omega⟩
    clear hex
    go_wp2_with fail
    refine (HCd.out w1 HB1.out).mono ?_
    rintro e w2 ⟨a2, c2, rfl, hb2⟩
    have HB2 : Hid (Below w.heap.size w w2) := HB1.out.trans (hb2.mono HB1.out.size)
    clear hb2 HB1 HCd
    obtain ⟨W3, hW3⟩ : ∃ W3, W3 = (w2.alloc (.cells #[pt B, pt S, .slice a2 n c2] 84)).alloc (.cells #[.slice none 0 0] 87) := ⟨_, rfl⟩
    have HI0 : Hid (HdI w.heap.size (w2.heap.size + 1) W3 (.slice none 0 0) 0 ∧ Below w.heap.size w W3) := by
      rw [hW3]
      exact ⟨⟨heap_alloc_new _ _ (by simp), [], World.ownsRow_nil _ _ _ _⟩, (HB2.out.alloc HB2.out.size _).alloc (by have := HB2.out.size; simp; omega) _⟩
    obtain ⟨i0, hi, hz0, hz1, hz2⟩ := info_parts infoHd
    have HXl : Hid (w.heap.size ≤ w2.heap.size + 1) := by have := HB2.out.size; show _ ≤ _; omega
    go_upto_region 9 with fail
    rw [← hW3]
    clear hW3 HB2
    generalize w2.heap.size + 1 = X at *
    generalize w2.heap.size = Gb at *
    go_loopw [38] (fun x wr => ∃ (i : Nat) (a : Option Addr) (c : Nat), i ≤ m ∧ x = .int .i64 (i : Int) ∧ Hid (HdI w.heap.size X wr (.slice a i c) i ∧ Below w.heap.size w wr)) (fun x _ => m - (intOf x).toNat)
    case atStart => exact ⟨0, none, 0, Nat.zero_le _, rfl, HI0⟩
    case round =>
      clear HI0
      obtain ⟨i, a, c, hi1, rfl, HI⟩ := hrel
      by_cases hlt : i < m
      · have hlti : (i : Int) < (m : Int) := by omega
        have c0 : wr.cell? ⟨X, 0, none⟩ = some (.slice a i c) := by simp [World.cell?, HI.out.1.bx]
        have hXl : X < wr.heap.size := (Array.getElem?_eq_some_iff.1 HI.out.1.bx).1
        obtain ⟨xs, ho⟩ := HI.out.1.own
        have HOw : Hid (((wr.alloc (.cells #[pt Gb, .int .i64 (i : Int), .slice none 0 0] 91)).alloc (.cells #[pt wr.heap.size] 88)).ownsRow (X + 1) 88 1 (.slice a i c) i xs) := World.ownsRow.alloc (World.ownsRow.alloc ho _) _
        have HSr : Hid (∀ j u, [pt wr.heap.size][j]? = some u → ((wr.alloc (.cells #[pt Gb, .int .i64 (i : Int), .slice none 0 0] 91)).alloc (.cells #[pt wr.heap.size] 88)).cell? ((⟨wr.heap.size + 1, 0, none⟩ : Addr).add j) = some u) := fun j u hu => by
          have hb : ((wr.alloc (.cells #[pt Gb, .int .i64 (i : Int), .slice none 0 0] 91)).alloc (.cells #[pt wr.heap.size] 88)).heap[wr.heap.size + 1]? = some (.cells #[pt wr.heap.size] 88 (0, 0)) := heap_alloc_new _ _ (by simp)
          match j, hu with
          | 0, hu => simp at hu; subst hu; rw [addr_add, Nat.zero_add]; simp only [World.cell?, hb]; rfl
          | j + 1, hu => simp at hu
        have HUp : Hid (∀ v' W', W'.ownsRow (X + 1) 88 1 v' (i + 1) (xs ++ [pt wr.heap.size]) → ((wr.alloc (.cells #[pt Gb, .int .i64 (i : Int), .slice none 0 0] 91)).alloc (.cells #[pt wr.heap.size] 88)).grownBy W' (Value.slice a i c).ownBlock →
            ∃ a' c', v' = .slice a' (i + 1) c' ∧ W'.cell? ⟨X, 0, none⟩ = some (.slice a i c) ∧ W'.frozen? ⟨X, 0, none⟩ = false ∧ HdI w.heap.size X (W'.setCell ⟨X, 0, none⟩ v') v' (i + 1) ∧ Below w.heap.size w (W'.setCell ⟨X, 0, none⟩ v')) := fun v' W' ho' hg' => by
          have hvl : ∀ b, (Value.slice a i c).ownBlock = some b → X + 1 ≤ b := fun b hb => (ho.lt b hb).1
          have hbX : W'.heap[X]? = some (.cells #[.slice a i c] 87 (0, 0)) := by
            rw [hg'.block X (by simp; omega) (fun e => by have := hvl X e.symm; omega)]
            exact ((heap_alloc_old _ _ (by simp; omega)).trans (heap_alloc_old _ _ hXl)).trans HI.out.1.bx
          have hbl : Below w.heap.size w W' := by
            have h1 : Below w.heap.size w ((wr.alloc (.cells #[pt Gb, .int .i64 (i : Int), .slice none 0 0] 91)).alloc (.cells #[pt wr.heap.size] 88)) := (HI.out.2.alloc HI.out.2.size _).alloc (by have := HI.out.2.size; simp; omega) _
            exact h1.trans (grown_belowK hg' (fun b hb => by have := hvl b hb; have := HXl.out; omega) h1.size)
          obtain ⟨g', c', e'⟩ : ∃ a' c', v' = .slice a' (i + 1) c' := by
            obtain ⟨_, ⟨_, h0⟩ | ⟨g, cap, cur, e, _⟩⟩ := ho'
            · omega
            · exact ⟨_, _, e⟩
          refine ⟨g', c', e', by simp [World.cell?, hbX], frozen_of_row W' X 0 _ _ hbX, ⟨?_, xs ++ [pt wr.heap.size], ?_⟩, below_set hbl _ _ HXl.out⟩
          · have := heap_setCell_same W' X 0 _ _ v' hbX
            rw [this]; rfl
          · obtain ⟨hl, h⟩ := ho'
            refine ⟨hl, ?_⟩
            rcases h with h | ⟨g, cap, cur, e, hg1, hg2, r⟩
            · exact .inl h
            · exact .inr ⟨g, cap, cur, e, hg1, (heap_setCell_other W' ⟨X, 0, none⟩ g v' (fun e2 => by simp only at e2; omega)).trans hg2, r⟩
        have hsz1 : (i + 1) * 8 ≤ 140737488355328 := by omega
        have hsz2 : i + 1 ≤ maxLen := by unfold maxLen; omega
        have hbs : X + 1 ≤ ((wr.alloc (.cells #[pt Gb, .int .i64 (i : Int), .slice none 0 0] 91)).alloc (.cells #[pt wr.heap.size] 88)).heap.size := by simp; omega
        have HSz := hidX (And.intro hsz1 (And.intro hsz2 hbs))
        clear hsz1 hsz2 hbs hXl ho
        go_wp2_with (at_builtin; refine wpList_appX rfl _ _ 85 88 i0 (.pointer none) 1 8 Try.underlying85 hi hz0 hz1 hz2 rfl (by decide) rfl (X + 1) (.slice a i c) i xs rfl HOw.out _ 1 1 [pt wr.heap.size] rfl rfl HSr.out (fun u hu => (by simp at hu; subst hu; rfl)) HSz.out.2.1 HSz.out.1 HSz.out.2.2 ?_; intro v' W' ho' hg' _; obtain ⟨a', c', hv', x0, xf, hI2, hb2⟩ := HUp.out v' W' ho' hg'; clear ho' hg'; subst hv'; have HI2 := hidX (And.intro hI2 hb2); clear hI2 hb2 c0)
        go_roundw
        case rel => exact ⟨i + 1, a', c', by omega, by go_num, HI2⟩
        case measure => simp [intOf]; omega
      · obtain rfl : i = m := by omega
        go_wp2
        go_ret2
        exact NP.good HE.out HI.out.2
  · have hk2 : (k2 != 0) = true := by simpa using h0
    rw [if_pos h0] at hex
    have HX : Hid (NP w er (.returned (.tuple #[.pointer none, .int .i64 k2])) w1) := by rw [hex]; exact NP.bad h0 HB1.out
    clear hex
    go_wp2
    go_ret2
    exact HX.out
end Go.Proofs.Ytkpggbjibngplaa
