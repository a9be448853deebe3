import Derived.Test.YtcaibgbhebldmaaGreatJ23
import Derived.Test.YtcaibgbhebldmaaGreatJ14
import Derived.Test.YtcaibgbhebldmaaGreatJ03
import Derived.Test.YtcaibgbhebldmaaGreatJ19
import Derived.Test.YtcaibgbhebldmaaGreatJ20
/-
  Accept.
-/
namespace Go.Proofs.YtcaibgbhebldmaaGreat.Kk
open Go.RowKit Go.Sort

/-- what Accept answers -/
def AccPost (w : World) (Ps : List Pr) (zs : List Nat) (e' : Ending) (w' : World) : Prop :=
  Below w.heap.size w w' ∧ match decR zs with
  | .error (q, x) => ∃ P, e' = .returned (.tuple #[.slice none 0 0, .iface 70 (.pointer (some ⟨P, 0, none⟩))]) ∧ w'.heap[P]? = some (.cells #[.int .i64 (q : Int), .iface 28 (.int .i64 x)] 72 (0, 0))
  | .ok Ts => if (eachN (soundN Ps) Ts).2 = 0 then ∃ v, e' = .returned (.tuple #[v, .nilIface]) ∧ OwnBat w Ts v w'
      else ∃ P, e' = .returned (.tuple #[.slice none 0 0, .iface 74 (.pointer (some ⟨P, 0, none⟩))]) ∧ w'.heap[P]? = some (.cells #[.int .i64 ((eachN (soundN Ps) Ts).1 : Int), .iface 28 (.int .i64 (eachN (soundN Ps) Ts).2)] 76 (0, 0))
theorem eachN_place {f : Tp → Int} {Ts : List Tp} (h : (eachN f Ts).2 = 0) : eachN f Ts = (0, 0) := by
  obtain ⟨h1, h2⟩ := eachN_ok h
  exact eachN_zero h1 h2

set_option maxRecDepth 100000 in
set_option maxHeartbeats 1000000 in
theorem accept_any (w : World) (lo ao : Option Addr) (n lc m cap : Nat) (Ps : List Pr) (zs : List Nat) (hl : ProcsAt w lo Ps) (hn : n = Ps.length) (hb : BytesAt w ao zs) (hm : m = zs.length) (hs : m ≤ 140737488355328) :
    Calls Tryz.prog 7 #[.slice lo n lc, .slice ao m cap] w fun e w' => AccPost w Ps zs e w' := by
  have HD0 := decode_b w ao m cap zs hm hb hs
  unfold DecPost at HD0
  cases hd : decR zs with
  | error x =>
    obtain ⟨q, x⟩ := x
    rw [hd] at HD0
    have hx : x ≠ 0 := (decR_err hb.1 hd).2
    have hx' : (x != 0) = true := by simpa using hx
    have HD : Hid (decR zs = .error (q, x)) := hd
    have HC : Hid (Calls Tryz.prog 22 #[.slice ao m cap] w fun e' w' => e' = .returned (.tuple #[.slice none 0 0, .int .i64 (q : Int), .int .i64 x]) ∧ Below w.heap.size w w') := HD0
    clear HD0 hl hn hb hm hs hd hx
    go_enter Tryz.func7, Tryz.ntmps7
    go_wp2_with fail
    refine HC.out.mono ?_
    rintro e w1 ⟨rfl, hb1⟩
    have HF : Hid (AccPost w Ps zs (.returned (.tuple #[.slice none 0 0, .iface 70 (.pointer (some ⟨w1.heap.size, 0, none⟩))])) (w1.alloc (.cells #[.int .i64 (q : Int), .iface 28 (.int .i64 x)] 72))) := by
      refine ⟨hb1.alloc hb1.size _, ?_⟩
      rw [HD.out]
      exact ⟨_, rfl, heap_alloc_new _ _ rfl⟩
    clear hb1 HC HD
    go_wp2
    go_ret2
    exact HF.out
  | ok Ts =>
    by_cases hc : (eachN (soundN Ps) Ts).2 = 0
    · refine (accept_ok w lo ao n lc m cap Ps zs Ts hl hn hb hm hs hd (eachN_place hc)).mono ?_
      rintro e w' ⟨v, rfl, ho, hbl⟩
      refine ⟨hbl, ?_⟩
      rw [hd]
      simp only [hc, if_true]
      exact ⟨v, rfl, ho⟩
    · rw [hd] at HD0
      have HZ : Hid (∀ t ∈ Ts, WF t ∧ TIn t) := (decR_back hb.1 hd).2.2
      have H64 : Hid (Ts.length ≤ 64) := (decR_back hb.1 hd).2.1
      have HC : Hid (Calls Tryz.prog 22 #[.slice ao m cap] w fun e' w' => ∃ v, e' = .returned (.tuple #[v, .int .i64 0, .int .i64 0]) ∧ OwnBat w Ts v w' ∧ Below w.heap.size w w') := HD0
      have HL : Hid (ProcsAt w lo Ps ∧ n = Ps.length) := ⟨hl, hn⟩
      have HD : Hid (decR zs = .ok Ts) := hd
      have hc' : ((eachN (soundN Ps) Ts).2 != 0) = true := by simpa using hc
      have HC0 : Hid (¬ (eachN (soundN Ps) Ts).2 = 0) := hc
      clear HD0 hl hn hb hm hs hd hc
      go_enter Tryz.func7, Tryz.ntmps7
      go_wp2_with fail
      refine HC.out.mono ?_
      rintro e w1 ⟨v, rfl, ho, hb1⟩
      obtain ⟨g, Qs, e, hB, hT, hLn⟩ := ho.lst HZ.out
      subst e
      have HB1 : Hid (Below w.heap.size w w1) := hb1
      have HCk : Hid (Calls Tryz.prog 23 #[.slice lo n lc, .slice (some ⟨g, 0, none⟩) Ts.length Ts.length] w1 fun e w' => e = .returned (.tuple #[.int .i64 ((eachN (soundN Ps) Ts).1 : Int), .int .i64 (eachN (soundN Ps) Ts).2]) ∧ Grew w1 w') := by
        have := check_b w1 lo (some ⟨g, 0, none⟩) n lc Ts.length Ts.length Ps Qs (HL.out.1.kept hb1) HL.out.2 hB hLn (by have := H64.out; omega)
        rw [hT] at this
        exact this
      have HP0 : Hid (∀ W P, Below w.heap.size w W → W.heap[P]? = some (.cells #[.int .i64 ((eachN (soundN Ps) Ts).1 : Int), .iface 28 (.int .i64 (eachN (soundN Ps) Ts).2)] 76 (0, 0)) → AccPost w Ps zs (.returned (.tuple #[.slice none 0 0, .iface 74 (.pointer (some ⟨P, 0, none⟩))])) W) := fun W P hW hP => by
        refine ⟨hW, ?_⟩
        rw [HD.out]
        simp only [HC0.out, if_false]
        exact ⟨P, rfl, hP⟩
      clear ho hb1 hB hT hLn HC HC0 HD HZ HL
      generalize (eachN (soundN Ps) Ts).1 = i1 at *
      generalize (eachN (soundN Ps) Ts).2 = x1 at *
      go_wp2_with fail
      refine HCk.out.mono ?_
      rintro e w2 ⟨rfl, hg2⟩
      have HF : Hid (AccPost w Ps zs (.returned (.tuple #[.slice none 0 0, .iface 74 (.pointer (some ⟨w2.heap.size, 0, none⟩))])) (w2.alloc (.cells #[.int .i64 (i1 : Int), .iface 28 (.int .i64 x1)] 76))) := by
        have hb2 := HB1.out.trans (hg2.below.mono HB1.out.size)
        exact HP0.out _ _ (hb2.alloc hb2.size _) (heap_alloc_new _ _ rfl)
      clear hg2 HCk HB1 HP0
      go_wp2
      go_ret2
      exact HF.out
end Go.Proofs.YtcaibgbhebldmaaGreat.Kk
/-
  ROWS OF TRANSACTIONS AND OF NUMBERS OF THE CALL'S OWN; append.
-/
namespace Go.Proofs.YtcaibgbhebldmaaGreat.Kk
open Go.RowKit Go.Sort

theorem bxcs_one (Ps : List Bx) : ∀ v ∈ bxcs Ps, v.oneCell' = true := by
  induction Ps with
  | nil => simp [bxcs]
  | cons x Ps ih =>
    intro v hv
    rcases List.mem_append.1 (show v ∈ bxc x ++ bxcs Ps from hv) with h | h
    · simp only [bxc, List.mem_cons, List.not_mem_nil, or_false] at h
      rcases h with rfl | rfl | rfl | rfl <;> rfl
    · exact ih v h
def OwnT (w : World) (base : Nat) (v : Value) (Ps : List Bx) : Prop := w.ownsRow base 46 4 v Ps.length (bxcs Ps)
theorem OwnT.nil (w : World) (base : Nat) : OwnT w base (.slice none 0 0) [] := World.ownsRow_nil _ _ _ _
theorem OwnT.shape {w : World} {base : Nat} {v : Value} {Ps : List Bx} (h : OwnT w base v Ps) :
    (v = .slice none 0 0 ∧ Ps = []) ∨ ∃ g cap, v = .slice (some ⟨g, 0, none⟩) Ps.length cap ∧ base ≤ g ∧ g < w.heap.size ∧ Ps.length ≤ cap ∧ cap ≤ maxLen ∧ TxsAt w (some ⟨g, 0, none⟩) Ps := by
  obtain ⟨hl, h⟩ := h
  rcases h with ⟨rfl, h0⟩ | ⟨g, cap, cur, rfl, hb, hg, hn, hm, hs, ht⟩
  · exact .inl ⟨rfl, List.eq_nil_of_length_eq_zero h0⟩
  · refine .inr ⟨g, cap, rfl, hb, (Array.getElem?_eq_some_iff.1 hg).1, hn, hm, .inr ⟨g, 0, rfl, fun j u hu => ?_⟩⟩
    have hj : j < Ps.length * 4 := by rw [← bxcs_length]; exact (List.getElem?_eq_some_iff.1 hu).1
    have e := World.ownsRow.cellAt (w := w) (base := base) (e := 46) (size := 4) (g := g) (cap := cap) ⟨hl, .inr ⟨g, cap, cur, rfl, hb, hg, hn, hm, hs, ht⟩⟩ j hj
    rw [Nat.zero_add, e, hu]
theorem OwnT.slice {w : World} {base : Nat} {v : Value} {Ps : List Bx} (h : OwnT w base v Ps) : ∃ ao cap, v = .slice ao Ps.length cap ∧ TxsAt w ao Ps ∧ (ao = none → cap = 0) ∧ Ps.length ≤ cap := by
  rcases h.shape with ⟨rfl, rfl⟩ | ⟨g, cap, rfl, _, _, hc, _, hb⟩
  · exact ⟨none, 0, rfl, .inl rfl, fun _ => rfl, by simp⟩
  · exact ⟨_, cap, rfl, hb, by simp, hc⟩
theorem OwnT.alloc {w : World} {base : Nat} {v : Value} {Ps : List Bx} (h : OwnT w base v Ps) (o : Obj) : OwnT (w.alloc o) base v Ps := World.ownsRow.alloc h o
theorem OwnT.mono {w : World} {base base' : Nat} {v : Value} {Ps : List Bx} (h : OwnT w base v Ps) (hb : base' ≤ base) : OwnT w base' v Ps := by
  obtain ⟨hl, h⟩ := h
  refine ⟨hl, ?_⟩
  rcases h with h | ⟨g, cap, cur, e, hg, r⟩
  · exact .inl h
  · exact .inr ⟨g, cap, cur, e, by omega, r⟩
theorem OwnT.lt {w : World} {base : Nat} {v : Value} {Ps : List Bx} (h : OwnT w base v Ps) : ∀ k, v.ownBlock = some k → base ≤ k ∧ k < w.heap.size := World.ownsRow.lt h
theorem OwnT.same {w w1 : World} {base : Nat} {v : Value} {Ps : List Bx} (h : OwnT w base v Ps) (hs : ∀ g, v.ownBlock = some g → w1.heap[g]? = w.heap[g]?) : OwnT w1 base v Ps := by
  obtain ⟨hl, h⟩ := h
  refine ⟨hl, ?_⟩
  rcases h with h | ⟨g, cap, cur, rfl, hg, hh, r⟩
  · exact .inl h
  · exact .inr ⟨g, cap, cur, rfl, hg, (hs g rfl).trans hh, r⟩
theorem OwnT.kept {w w1 : World} {base : Nat} {v : Value} {Ps : List Bx} (h : OwnT w base v Ps) (hb : Below w.heap.size w w1) : OwnT w1 base v Ps :=
  h.same fun g hg => hb.block g (h.lt g hg).2
theorem run_append_txs {w : World} (ty : TypeId) (base : Nat) (v : Value) (Ps : List Bx) (hown : OwnT w base v Ps)
    (ad : Addr) (m c : Nat) (Qs : List Bx) (hm : m = Qs.length) (hsrc : ∀ j u, (bxcs Qs)[j]? = some u → w.cell? (ad.add j) = some u) (hlen : (Ps.length + Qs.length) * 80 ≤ 140737488355328) (hbase : base ≤ w.heap.size) :
    ∃ v' w', (Builtin.append_ #[31, 31] ty #[v, .slice (some ad) m c]).run Tryz.prog w = .ok v' w' ∧ OwnT w' base v' (Ps ++ Qs) ∧ w.grownBy w' v.ownBlock ∧ (v'.ownBlock = v.ownBlock ∨ v'.ownBlock = some w.heap.size) := by
  obtain ⟨i0, hi, hz0, hz1, hz2⟩ := info_parts infoT
  subst hm
  obtain ⟨v', w', hr, h2, h3, _, h5⟩ := run_append_own_at (P := Tryz.prog) w base 31 ty 46 i0 (.agg #[.int .i64 0, .slice none 0 0, .slice none 0 0, .slice none 0 0]) 4 80 Tryz.underlying31 hi hz0 hz1 hz2 rfl (by decide) v Ps.length (bxcs Ps) hown ad Qs.length c (bxcs Qs) (bxcs_length Qs)
      hsrc (bxcs_one Qs) (by unfold maxLen; omega) hlen hbase
  exact ⟨v', w', hr, by unfold OwnT; rw [List.length_append, bxcs_append]; exact h2, h3, h5⟩
theorem wpList_append_txs {w : World} {ops : Array Oper} {rest : List Oper} {o : Oper} {a : Act} {Q : Exit → Act → World → Prop} (hgd : o.guard = none) (s x : Operand)
    (ho : o.op = .call { callee := .builtin .append, args := #[s, x], argTypes := #[31, 31] }) (base : Nat) (v : Value) (Ps : List Bx) (hs : a.eval s = v) (hown : OwnT w base v Ps)
    (ad : Addr) (m c : Nat) (Qs : List Bx) (hx : a.eval x = .slice (some ad) m c) (hm : m = Qs.length) (hsrc : ∀ j u, (bxcs Qs)[j]? = some u → w.cell? (ad.add j) = some u) (hlen : (Ps.length + Qs.length) * 80 ≤ 140737488355328) (hbase : base ≤ w.heap.size)
    (h : ∀ v' w', OwnT w' base v' (Ps ++ Qs) → w.grownBy w' v.ownBlock → (v'.ownBlock = v.ownBlock ∨ v'.ownBlock = some w.heap.size) → wpList Tryz.prog ops Q rest (a.put o.dst v') w') : wpList Tryz.prog ops Q (o :: rest) a w := by
  obtain ⟨v', w', hr, h2, h3, h4⟩ := run_append_txs o.type base v Ps hown ad m c Qs hm hsrc hlen hbase
  refine wpList_plain hgd fun K hK' => ?_
  unfold Oper.wp
  simp [execOp, ho, resolve, invoke, builtin, hs, hx, hr, Result.andThen]
  exact hK' _ _ (h v' w' h2 h3 h4)
theorem step_append_txs {w : World} {ops : Array Oper} {o : Oper} {a : Act} {K' : Act → World → Prop} {Q : Exit → Act → World → Prop} {E : Prop} (hgd : o.guard = none) (s x : Operand)
    (ho : o.op = .call { callee := .builtin .append, args := #[s, x], argTypes := #[31, 31] }) (base : Nat) (v : Value) (Ps : List Bx) (hs : a.eval s = v) (hown : OwnT w base v Ps)
    (ad : Addr) (m c : Nat) (Qs : List Bx) (hx : a.eval x = .slice (some ad) m c) (hm : m = Qs.length) (hsrc : ∀ j u, (bxcs Qs)[j]? = some u → w.cell? (ad.add j) = some u) (hlen : (Ps.length + Qs.length) * 80 ≤ 140737488355328) (hbase : base ≤ w.heap.size)
    (h : ∀ v' w', OwnT w' base v' (Ps ++ Qs) → w.grownBy w' v.ownBlock → (v'.ownBlock = v.ownBlock ∨ v'.ownBlock = some w.heap.size) → K' (a.put o.dst v') w') :
    if Region.wanted o (yielded ops a.tmps) = true then Oper.wp Tryz.prog o a w K' Q else E := by
  have hw : Region.wanted o (yielded ops a.tmps) = true := by simp [Region.wanted, hgd]
  rw [if_pos hw]
  obtain ⟨v', w', hr, h2, h3, h4⟩ := run_append_txs o.type base v Ps hown ad m c Qs hm hsrc hlen hbase
  unfold Oper.wp execOp
  simp only [ho, resolve, invoke, builtin, Sem.run_bind, Sem.run_pure, Result.andThen_ok, List.map_toArray, List.map_cons, List.map_nil, hs, hx, hr]
  exact h v' w' h2 h3 h4
/-- one transaction, laid for an append -/
theorem tx_src (w : World) (B : Nat) (x : Bx) (hB : B = w.heap.size) : ∀ j u, (bxcs [x])[j]? = some u → (w.alloc (.cells #[.int .i64 x.t.proc, .slice x.aA x.t.args.length x.cA, .slice x.aR x.t.reads.length x.cR, .slice x.aW x.t.writes.length x.cW] 46)).cell? ((⟨B, 0, none⟩ : Addr).add j) = some u := by
  subst hB
  intro j u hu
  rw [addr_add, Nat.zero_add]
  have hb : (w.alloc (.cells #[.int .i64 x.t.proc, .slice x.aA x.t.args.length x.cA, .slice x.aR x.t.reads.length x.cR, .slice x.aW x.t.writes.length x.cW] 46)).heap[w.heap.size]? = some (.cells #[.int .i64 x.t.proc, .slice x.aA x.t.args.length x.cA, .slice x.aR x.t.reads.length x.cR, .slice x.aW x.t.writes.length x.cW] 46 (0, 0)) := heap_alloc_new _ _ rfl
  simp only [World.cell?, hb]
  have e : bxcs [x] = [.int .i64 x.t.proc, .slice x.aA x.t.args.length x.cA, .slice x.aR x.t.reads.length x.cR, .slice x.aW x.t.writes.length x.cW] := by simp [bxcs, bxc]
  rw [e] at hu
  simpa using hu
/-- numbers -/
def OwnN (w : World) (base : Nat) (v : Value) (L : List Int) : Prop := w.ownsRow base 2 1 v L.length (L.map iv)
theorem OwnN.nil (w : World) (base : Nat) : OwnN w base (.slice none 0 0) [] := World.ownsRow_nil _ _ _ _
theorem OwnN.shape {w : World} {base : Nat} {v : Value} {L : List Int} (h : OwnN w base v L) :
    (v = .slice none 0 0 ∧ L = []) ∨ ∃ g cap, v = .slice (some ⟨g, 0, none⟩) L.length cap ∧ base ≤ g ∧ g < w.heap.size ∧ L.length ≤ cap ∧ cap ≤ maxLen ∧ NumsAt w (some ⟨g, 0, none⟩) L := by
  obtain ⟨hl, h⟩ := h
  rcases h with ⟨rfl, h0⟩ | ⟨g, cap, cur, rfl, hb, hg, hn, hm, hs, ht⟩
  · exact .inl ⟨rfl, List.eq_nil_of_length_eq_zero h0⟩
  · refine .inr ⟨g, cap, rfl, hb, (Array.getElem?_eq_some_iff.1 hg).1, hn, hm, .inr ⟨g, 0, rfl, fun j u hu => ?_⟩⟩
    have hj : j < L.length * 1 := by have := (List.getElem?_eq_some_iff.1 hu).1; simpa using this
    have e := World.ownsRow.cellAt (w := w) (base := base) (e := 2) (size := 1) (g := g) (cap := cap) ⟨hl, .inr ⟨g, cap, cur, rfl, hb, hg, hn, hm, hs, ht⟩⟩ j hj
    rw [Nat.zero_add, e, hu]
theorem OwnN.slice {w : World} {base : Nat} {v : Value} {L : List Int} (h : OwnN w base v L) : ∃ ao cap, v = .slice ao L.length cap ∧ NumsAt w ao L ∧ (ao = none → cap = 0) ∧ L.length ≤ cap := by
  rcases h.shape with ⟨rfl, rfl⟩ | ⟨g, cap, rfl, _, _, hc, _, hb⟩
  · exact ⟨none, 0, rfl, .inl rfl, fun _ => rfl, by simp⟩
  · exact ⟨_, cap, rfl, hb, by simp, hc⟩
theorem OwnN.alloc {w : World} {base : Nat} {v : Value} {L : List Int} (h : OwnN w base v L) (o : Obj) : OwnN (w.alloc o) base v L := World.ownsRow.alloc h o
theorem OwnN.drewN {w : World} {base : Nat} {v : Value} {L : List Int} (h : OwnN w base v L) (n : Nat) : OwnN (w.drewN n) base v L := h
theorem OwnN.mono {w : World} {base base' : Nat} {v : Value} {L : List Int} (h : OwnN w base v L) (hb : base' ≤ base) : OwnN w base' v L := by
  obtain ⟨hl, h⟩ := h
  refine ⟨hl, ?_⟩
  rcases h with h | ⟨g, cap, cur, e, hg, r⟩
  · exact .inl h
  · exact .inr ⟨g, cap, cur, e, by omega, r⟩
theorem OwnN.lt {w : World} {base : Nat} {v : Value} {L : List Int} (h : OwnN w base v L) : ∀ k, v.ownBlock = some k → base ≤ k ∧ k < w.heap.size := World.ownsRow.lt h
theorem OwnN.same {w w1 : World} {base : Nat} {v : Value} {L : List Int} (h : OwnN w base v L) (hs : ∀ g, v.ownBlock = some g → w1.heap[g]? = w.heap[g]?) : OwnN w1 base v L := by
  obtain ⟨hl, h⟩ := h
  refine ⟨hl, ?_⟩
  rcases h with h | ⟨g, cap, cur, rfl, hg, hh, r⟩
  · exact .inl h
  · exact .inr ⟨g, cap, cur, rfl, hg, (hs g rfl).trans hh, r⟩
theorem OwnN.kept {w w1 : World} {base : Nat} {v : Value} {L : List Int} (h : OwnN w base v L) (hb : Below w.heap.size w w1) : OwnN w1 base v L :=
  h.same fun g hg => hb.block g (h.lt g hg).2

/-- append of one number -/
theorem run_append_num {w : World} (ty : TypeId) (base : Nat) (v : Value) (L : List Int) (hown : OwnN w base v L) (B : Nat) (x : Int) (hB : w.cell? ⟨B, 0, none⟩ = some (.int .i64 x)) (hlen : L.length + 1 ≤ 1000000) (hbase : base ≤ w.heap.size) :
    ∃ v' w', (Builtin.append_ #[43, 43] ty #[v, .slice (some ⟨B, 0, none⟩) 1 1]).run Tryz.prog w = .ok v' w' ∧ OwnN w' base v' (L ++ [x]) ∧ w.grownBy w' v.ownBlock ∧ (v'.ownBlock = v.ownBlock ∨ v'.ownBlock = some w.heap.size) := by
  obtain ⟨i0, hi, hz0, hz1, hz2⟩ := info_parts info64
  obtain ⟨v', w', hr, h2, h3, _, h5⟩ := run_append_own_at (P := Tryz.prog) w base 43 ty 2 i0 (.int .i64 0) 1 8 Tryz.underlying43 hi hz0 hz1 hz2 rfl (by decide) v L.length (L.map iv) hown ⟨B, 0, none⟩ 1 1 [.int .i64 x] (by simp)
    (by
      intro j u hu
      match j, hu with
      | 0, hu => simp at hu; rw [addr_add, ← hu]; exact hB
      | j + 1, hu => simp at hu) (by intro u hu; simp at hu; rw [hu]; rfl) (by unfold maxLen; omega) (by omega) hbase
  refine ⟨v', w', hr, ?_, h3, h5⟩
  unfold OwnN
  rw [List.length_append, List.map_append]
  exact h2
theorem wpList_append_num {w : World} {ops : Array Oper} {rest : List Oper} {o : Oper} {a : Act} {Q : Exit → Act → World → Prop} (hgd : o.guard = none) (s x : Operand)
    (ho : o.op = .call { callee := .builtin .append, args := #[s, x], argTypes := #[43, 43] }) (base : Nat) (v : Value) (L : List Int) (hs : a.eval s = v) (hown : OwnN w base v L)
    (B : Nat) (z : Int) (hx : a.eval x = .slice (some ⟨B, 0, none⟩) 1 1) (hB : w.cell? ⟨B, 0, none⟩ = some (.int .i64 z)) (hlen : L.length + 1 ≤ 1000000) (hbase : base ≤ w.heap.size)
    (h : ∀ v' w', OwnN w' base v' (L ++ [z]) → w.grownBy w' v.ownBlock → (v'.ownBlock = v.ownBlock ∨ v'.ownBlock = some w.heap.size) → wpList Tryz.prog ops Q rest (a.put o.dst v') w') : wpList Tryz.prog ops Q (o :: rest) a w := by
  obtain ⟨v', w', hr, h2, h3, h4⟩ := run_append_num o.type base v L hown B z hB hlen hbase
  refine wpList_plain hgd fun K hK' => ?_
  unfold Oper.wp
  simp [execOp, ho, resolve, invoke, builtin, hs, hx, hr, Result.andThen]
  exact hK' _ _ (h v' w' h2 h3 h4)

theorem step_append_num {w : World} {ops : Array Oper} {o : Oper} {a : Act} {K' : Act → World → Prop} {Q : Exit → Act → World → Prop} {E : Prop} (hgd : o.guard = none) (s x : Operand)
    (ho : o.op = .call { callee := .builtin .append, args := #[s, x], argTypes := #[43, 43] }) (base : Nat) (v : Value) (L : List Int) (hs : a.eval s = v) (hown : OwnN w base v L)
    (B : Nat) (z : Int) (hx : a.eval x = .slice (some ⟨B, 0, none⟩) 1 1) (hB : w.cell? ⟨B, 0, none⟩ = some (.int .i64 z)) (hlen : L.length + 1 ≤ 1000000) (hbase : base ≤ w.heap.size)
    (h : ∀ v' w', OwnN w' base v' (L ++ [z]) → w.grownBy w' v.ownBlock → (v'.ownBlock = v.ownBlock ∨ v'.ownBlock = some w.heap.size) → K' (a.put o.dst v') w') :
    if Region.wanted o (yielded ops a.tmps) = true then Oper.wp Tryz.prog o a w K' Q else E := by
  have hw : Region.wanted o (yielded ops a.tmps) = true := by simp [Region.wanted, hgd]
  rw [if_pos hw]
  obtain ⟨v', w', hr, h2, h3, h4⟩ := run_append_num o.type base v L hown B z hB hlen hbase
  unfold Oper.wp execOp
  simp only [ho, resolve, invoke, builtin, Sem.run_bind, Sem.run_pure, Result.andThen_ok, List.map_toArray, List.map_cons, List.map_nil, hs, hx, hr]
  exact h v' w' h2 h3 h4
end Go.Proofs.YtcaibgbhebldmaaGreat.Kk
/-
  THE SHELF OF LISTS THAT WERE HANDED OUT (layer 6): what lies where.
-/
namespace Go.Proofs.YtcaibgbhebldmaaGreat.Kk
open Go.RowKit Go.Sort

/-- a list that was handed out: its block, its length; it is full -/
abbrev It := Option Nat × Nat
def itv (x : It) : Value := .slice (x.1.map fun g => ⟨g, 0, none⟩) x.2 x.2
/-- its row -/
def Rw (W : World) (T : TypeId) (sz lo hi : Nat) (x : It) : Prop := match x.1 with
  | none => x.2 = 0
  | some g => lo ≤ g ∧ g < hi ∧ ∃ cur, W.heap[g]? = some (.cells cur T (0, 0)) ∧ cur.size = x.2 * sz
theorem Rw.at {W : World} {T : TypeId} {sz lo hi g n : Nat} (h : Rw W T sz lo hi (some g, n)) : lo ≤ g ∧ g < hi ∧ ∃ cur, W.heap[g]? = some (.cells cur T (0, 0)) ∧ cur.size = n * sz := h
theorem Rw.below {W W' : World} {T : TypeId} {sz lo hi B : Nat} {x : It} (h : Rw W T sz lo hi x) (hb : Below B W W') (hB : hi ≤ B) : Rw W' T sz lo hi x := by
  obtain ⟨o, n⟩ := x
  cases o with
  | none => exact h
  | some g =>
    obtain ⟨h1, h2, cur, h3, h4⟩ := h.at
    exact ⟨h1, h2, cur, (hb.block g (by omega)).trans h3, h4⟩
theorem Rw.wide {W : World} {T : TypeId} {sz lo hi hi' : Nat} {x : It} (h : Rw W T sz lo hi x) (hh : hi ≤ hi') : Rw W T sz lo hi' x := by
  obtain ⟨o, n⟩ := x
  cases o with
  | none => exact h
  | some g =>
    obtain ⟨h1, h2, h3⟩ := h.at
    exact ⟨h1, by omega, h3⟩
theorem Rw.set {W : World} {T : TypeId} {sz lo hi : Nat} {x : It} (h : Rw W T sz lo hi x) (a : Nat) (j : Nat) (v : Value) : Rw (W.setCell ⟨a, j, none⟩ v) T sz lo hi x := by
  obtain ⟨o, n⟩ := x
  cases o with
  | none => exact h
  | some g =>
    obtain ⟨h1, h2, cur, h3, h4⟩ := h.at
    by_cases e : g = a
    · subst e
      exact ⟨h1, h2, _, heap_setCell_same W g j _ _ v h3, by simpa using h4⟩
    · exact ⟨h1, h2, cur, (heap_setCell_other W ⟨a, j, none⟩ g v e).trans h3, h4⟩
/-- their blocks rise -/
def Rs (L : List It) : Prop := L.Pairwise fun x y => ∀ g h, x.1 = some g → y.1 = some h → g < h
/-- a row of lists -/
def OwnS (T : TypeId) (w : World) (base : Nat) (v : Value) (L : List It) : Prop := w.ownsRow base T 1 v L.length (L.map itv)
theorem OwnS.nil (T : TypeId) (w : World) (base : Nat) : OwnS T w base (.slice none 0 0) [] := World.ownsRow_nil _ _ _ _
theorem OwnS.lt {T : TypeId} {w : World} {base : Nat} {v : Value} {L : List It} (h : OwnS T w base v L) : ∀ k, v.ownBlock = some k → base ≤ k ∧ k < w.heap.size := World.ownsRow.lt h
theorem OwnS.same {T : TypeId} {w w1 : World} {base : Nat} {v : Value} {L : List It} (h : OwnS T w base v L) (hs : ∀ g, v.ownBlock = some g → w1.heap[g]? = w.heap[g]?) : OwnS T w1 base v L := by
  obtain ⟨hl, h⟩ := h
  refine ⟨hl, ?_⟩
  rcases h with h | ⟨g, cap, cur, rfl, hg, hh, r⟩
  · exact .inl h
  · exact .inr ⟨g, cap, cur, rfl, hg, (hs g rfl).trans hh, r⟩
theorem OwnS.kept {T : TypeId} {w w1 : World} {base : Nat} {v : Value} {L : List It} (h : OwnS T w base v L) (hb : Below w.heap.size w w1) : OwnS T w1 base v L := h.same fun g hg => hb.block g (h.lt g hg).2
theorem OwnS.typed {T : TypeId} {w : World} {base : Nat} {v : Value} {L : List It} (h : OwnS T w base v L) {g : Nat} (hg : v.ownBlock = some g) : ∃ cur, w.heap[g]? = some (.cells cur T (0, 0)) := by
  obtain ⟨hl, h⟩ := h
  rcases h with ⟨rfl, _⟩ | ⟨g', cap, cur, rfl, _, hh, _⟩
  · cases hg
  · cases hg; exact ⟨cur, hh⟩
theorem OwnS.el {T : TypeId} {w : World} {base n c : Nat} {ao : Option Addr} {L : List It} (h : OwnS T w base (.slice ao n c) L) (i : Nat) (hi : i < L.length) : ∃ hg, ao = some ⟨hg, 0, none⟩ ∧ w.cell? ⟨hg, i, none⟩ = some (itv L[i]) := by
  obtain ⟨hl, h⟩ := h
  rcases h with ⟨h1, h2⟩ | ⟨g, cap, cur, e, hb, hg, hn, hm, hs, ht⟩
  · omega
  · simp only [Value.slice.injEq] at e
    obtain ⟨rfl, _, _⟩ := e
    refine ⟨g, rfl, ?_⟩
    have e2 := World.ownsRow.cellAt (w := w) (base := base) (e := T) (size := 1) (g := g) (cap := cap) (n := L.length) (xs := L.map itv) ⟨hl, .inr ⟨g, cap, cur, rfl, hb, hg, hn, hm, hs, ht⟩⟩ i (by omega)
    rw [e2]
    simp [hi]
theorem OwnS.slice {T : TypeId} {w : World} {base : Nat} {v : Value} {L : List It} (h : OwnS T w base v L) : ∃ ao cap, v = .slice ao L.length cap := by
  obtain ⟨hl, h⟩ := h
  rcases h with ⟨rfl, h2⟩ | ⟨g, cap, cur, e, _⟩
  · exact ⟨none, 0, by rw [h2]⟩
  · exact ⟨_, cap, e⟩
/-- a kind of elements -/
structure El (TS TE : TypeId) (z : Value) (sz by_ : Nat) : Prop where
  u : Tryz.prog.underlying TS = some (.slice TE)
  i : (Tryz.prog.info? TE).map (fun i => (i.zero, i.size, i.bytes)) = some (some z, sz, by_)
  c : z.cells.size = sz
  p : 0 < sz
  b : by_ ≤ 80
theorem elK : El 44 89 (.agg #[.int .i64 0, .int .i64 0]) 2 16 := ⟨Tryz.underlying44, infoK, rfl, by decide, by decide⟩
theorem elN : El 43 2 (.int .i64 0) 1 8 := ⟨Tryz.underlying43, info64, rfl, by decide, by decide⟩
theorem elT : El 31 46 (.agg #[.int .i64 0, .slice none 0 0, .slice none 0 0, .slice none 0 0]) 4 80 := ⟨Tryz.underlying31, infoT, rfl, by decide, by decide⟩
theorem elSK : El 41 44 (.slice none 0 0) 1 24 := ⟨Tryz.underlying41, by kernel_rfl, rfl, by decide, by decide⟩
/-- append to a row of the call's own -/
theorem run_append_E {TS TE : TypeId} {z : Value} {sz by_ : Nat} (E : El TS TE z sz by_) {w : World} (ty : TypeId) (base : Nat) (v : Value) (n : Nat) (xs : List Value) (hown : w.ownsRow base TE sz v n xs) (a : Addr) (m c : Nat) (news : List Value) (hl : news.length = m * sz) (hnews : ∀ j u, news[j]? = some u → w.cell? (a.add j) = some u) (h1 : ∀ u ∈ news, u.oneCell' = true) (hn : n + m ≤ 1000000000) (hbase : base ≤ w.heap.size) :
    ∃ v' w', (Builtin.append_ #[TS, TS] ty #[v, .slice (some a) m c]).run Tryz.prog w = .ok v' w' ∧ w'.ownsRow base TE sz v' (n + m) (xs ++ news) ∧ w.grownBy w' v.ownBlock ∧ (v'.ownBlock = v.ownBlock ∨ v'.ownBlock = some w.heap.size) := by
  obtain ⟨i0, hi, hz0, hz1, hz2⟩ := info_parts E.i
  have hb := E.b
  have hm : (n + m) * by_ ≤ 1000000000 * 80 := Nat.mul_le_mul hn hb
  obtain ⟨v', w', hr, h2, h3, _, h5⟩ := run_append_own_at (P := Tryz.prog) (w := w) base TS ty TE i0 z sz by_ E.u hi hz0 hz1 hz2 E.c E.p v n xs hown a m c news hl hnews h1 (by unfold maxLen; omega) (by omega) hbase
  exact ⟨v', w', hr, h2, h3, h5⟩
/-- append to a list that is full: a new row -/
theorem run_append_F {TS TE : TypeId} {z : Value} {sz by_ : Nat} (E : El TS TE z sz by_) {w : World} (ty : TypeId) (lo hi : Nat) (x : It) (hx : Rw w TE sz lo hi x) (a : Addr) (m c : Nat) (news : List Value) (hl : news.length = m * sz) (hnews : ∀ j u, news[j]? = some u → w.cell? (a.add j) = some u) (h1 : ∀ u ∈ news, u.oneCell' = true) (hm0 : 0 < m) (hn : x.2 + m ≤ 1000000000) :
    ∃ v' w' xs, (Builtin.append_ #[TS, TS] ty #[itv x, .slice (some a) m c]).run Tryz.prog w = .ok v' w' ∧ w'.ownsRow w.heap.size TE sz v' (x.2 + m) xs ∧ w.grownBy w' none := by
  obtain ⟨o, n⟩ := x
  cases o with
  | none =>
    have h0 : n = 0 := hx
    subst h0
    obtain ⟨v', w', hr, h2, h3, _⟩ := run_append_E E (w := w) ty w.heap.size (.slice none 0 0) 0 [] (World.ownsRow_nil _ _ _ _) a m c news hl hnews h1 hn (Nat.le_refl _)
    exact ⟨v', w', _, hr, h2, h3⟩
  | some g =>
    obtain ⟨h2, h3, cur, h4, h5⟩ := hx.at
    obtain ⟨i0, hi', hz0, hz1, hz2⟩ := info_parts E.i
    have hb := E.b
    have hn' : n + m ≤ 1000000000 := hn
    have hm : (n + m) * by_ ≤ 1000000000 * 80 := Nat.mul_le_mul hn' hb
    have hfit : Builtin.nextslicecap (n + m) n * i0.bytes ≤ 281474976710656 := growslice_fits (by omega) (by rw [hz2]; omega)
    have hr := run_append_grow (P := Tryz.prog) w TS ty TE i0 z E.u hi' hz0 ⟨g, 0, none⟩ n n cur.toList (by rw [hz1]; simpa using h5)
      (by intro j u hu; rw [addr_add, World.cell?, h4, Nat.zero_add]; simpa using hu) a m c news (by rw [hz1]; exact hl) hnews (by omega) (by omega) hfit
    have hlen : (cur.toList ++ news).length = (n + m) * sz := by rw [List.length_append, hl, Nat.add_mul]; simp [h5]
    refine ⟨_, _, cur.toList ++ news, hr, ⟨hlen, .inr ⟨w.heap.size, _, _, rfl, Nat.le_refl _, Go.heap_alloc_new w.drew _, grownCap_ge w (n + m) n TE, grownCap_le_maxLen w (n + m) n TE (by unfold maxLen; omega), ?_, ?_⟩⟩, ⟨rfl, rfl, rfl, by simp, fun k hk _ => Go.heap_alloc_old w.drew _ hk⟩⟩
    · have hge := grownCap_ge w (n + m) n TE
      simp only [Array.size_append, List.size_toArray, size_zeroCells, E.c, hl]
      rw [show cur.toList.length = n * sz by simpa using h5]
      generalize grownCap w (n + m) n TE = G at *
      rw [← Nat.add_mul, ← Nat.add_mul, show n + m + (G - (n + m)) = G by omega]
    · simp only [Array.toList_append, List.append_assoc]
      rw [← List.append_assoc, ← hlen]
      exact List.take_left
/-- the operation, whatever the kind -/
theorem wpL_app {w : World} {ops : Array Oper} {rest : List Oper} {o : Oper} {a : Act} {Q : Exit → Act → World → Prop} (hgd : o.guard = none) (s x : Operand) (TS : TypeId)
    (ho : o.op = .call { callee := .builtin .append, args := #[s, x], argTypes := #[TS, TS] }) (v u : Value) (hs : a.eval s = v) (hx : a.eval x = u) {post : Value → World → Prop}
    (hr : ∀ ty, ∃ v' w', (Builtin.append_ #[TS, TS] ty #[v, u]).run Tryz.prog w = .ok v' w' ∧ post v' w') (h : ∀ v' w', post v' w' → wpList Tryz.prog ops Q rest (a.put o.dst v') w') : wpList Tryz.prog ops Q (o :: rest) a w := by
  obtain ⟨v', w', hr, h2⟩ := hr o.type
  refine wpList_plain hgd fun K hK' => ?_
  unfold Oper.wp
  simp [execOp, ho, resolve, invoke, builtin, hs, hx, hr, Result.andThen]
  exact hK' _ _ (h v' w' h2)
theorem step_app {w : World} {ops : Array Oper} {o : Oper} {a : Act} {K' : Act → World → Prop} {Q : Exit → Act → World → Prop} {E : Prop} (hgd : o.guard = none) (s x : Operand) (TS : TypeId)
    (ho : o.op = .call { callee := .builtin .append, args := #[s, x], argTypes := #[TS, TS] }) (v u : Value) (hs : a.eval s = v) (hx : a.eval x = u) {post : Value → World → Prop}
    (hr : ∀ ty, ∃ v' w', (Builtin.append_ #[TS, TS] ty #[v, u]).run Tryz.prog w = .ok v' w' ∧ post v' w') (h : ∀ v' w', post v' w' → K' (a.put o.dst v') w') :
    if Region.wanted o (yielded ops a.tmps) = true then Oper.wp Tryz.prog o a w K' Q else E := by
  have hw : Region.wanted o (yielded ops a.tmps) = true := by simp [Region.wanted, hgd]
  rw [if_pos hw]
  obtain ⟨v', w', hr, h2⟩ := hr o.type
  unfold Oper.wp execOp
  simp only [ho, resolve, invoke, builtin, Sem.run_bind, Sem.run_pure, Result.andThen_ok, List.map_toArray, List.map_cons, List.map_nil, hs, hx, hr]
  exact h v' w' h2
section
variable {w0 W W' : World} {B : Nat} {aB : Option Addr} {cB : Nat} {aK : Option Addr} {cK : Nat} {aI : Option Addr} {cI : Nat} {Bs Ks Is : List It}
end
theorem Rs.ne {L : List It} (h : Rs L) {i j : Nat} (hi : i < L.length) (hj : j < L.length) (hij : i ≠ j) {g k : Nat} (e1 : L[i].1 = some g) (e2 : L[j].1 = some k) : g ≠ k := by
  rcases Nat.lt_or_ge i j with h1 | h1
  · have := (List.pairwise_iff_getElem.1 h) i j hi hj h1 g k e1 e2; omega
  · have := (List.pairwise_iff_getElem.1 h) j i hj hi (by omega) k g e2 e1; omega
theorem Rs.snoc {L : List It} {x : It} (h : Rs L) (hx : ∀ y ∈ L, ∀ g k, y.1 = some g → x.1 = some k → g < k) : Rs (L ++ [x]) := by
  unfold Rs at *
  rw [List.pairwise_append]
  exact ⟨h, List.pairwise_singleton _ _, fun y hy z hz => by simp at hz; subst hz; exact hx y hy⟩
theorem ne_of_type {W : World} {g k : Nat} {c d : Array Value} {T U : TypeId} (h1 : W.heap[g]? = some (.cells c T (0, 0))) (h2 : W.heap[k]? = some (.cells d U (0, 0))) (hne : T ≠ U) : g ≠ k := fun e => by
  subst e; rw [h1] at h2; simp at h2; exact hne h2.2
end Go.Proofs.YtcaibgbhebldmaaGreat.Kk
