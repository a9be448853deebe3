import Derived.Test.YtlilaicgmdbhcaaDoorJ10
import Derived.Test.YtlilaicgmdbhcaaDoorJ25
import Derived.Test.YtlilaicgmdbhcaaDoorJ15
import Derived.Test.YtlilaicgmdbhcaaDoorJ04
import Derived.Test.YtlilaicgmdbhcaaDoorJ14
import Derived.Test.YtlilaicgmdbhcaaDoorJ16
import Derived.Deep.QuietTactic
/-
  HOW THE DOCUMENT READS A BATCH: its Reader's state, and what has been read.
-/
namespace Go.Proofs.YtlilaicgmdbhcaaDoor.Kk
open Go.RowKit Go.Sort

theorem rdUpto_stuck (b : List Nat) (p : Nat) {e : Int} (most : Nat) (h : e ≠ 0) : rdUpto b p e most = (0, p, e) := by unfold rdUpto; rw [if_pos h]
theorem upR_ok {b : List Nat} {most p n q : Nat} (h : upR b most p = .ok (n, q)) : rdUpto b p 0 most = (n, q, 0) := by
  unfold upR at h
  by_cases h0 : (rdUpto b p 0 most).2.2 = 0
  · rw [if_pos h0] at h
    simp only [Except.ok.injEq, Prod.mk.injEq] at h
    exact Prod.ext h.1 (Prod.ext h.2 h0)
  · rw [if_neg h0] at h; cases h
theorem upR_errD {b : List Nat} {most p q : Nat} {x : Int} (h : upR b most p = .error (q, x)) : rdUpto b p 0 most = (0, q, x) ∧ x ≠ 0 := by
  unfold upR at h
  by_cases h0 : (rdUpto b p 0 most).2.2 = 0
  · rw [if_pos h0] at h; cases h
  · rw [if_neg h0] at h
    simp only [Except.error.injEq, Prod.mk.injEq] at h
    have h1 : (rdUpto b p 0 most).1 = 0 := by
      unfold rdUpto at h0 ⊢
      rw [if_neg (by simp)] at h0 ⊢
      split
      · rfl
      · rename_i hs
        rw [if_neg hs] at h0
        split
        · rfl
        · rename_i hm
          rw [if_neg hm] at h0
          exact absurd rfl h0
    exact ⟨Prod.ext h1 (Prod.ext h.1 h.2), by rw [← h.2]; exact h0⟩
theorem rdUpto_le (b : List Nat) (p : Nat) (e : Int) (most : Nat) : (rdUpto b p e most).1 ≤ most := by
  unfold rdUpto
  split
  · exact Nat.zero_le _
  · split
    · exact Nat.zero_le _
    · split
      · exact Nat.zero_le _
      · rename_i h; exact Nat.le_of_not_lt h
theorem upR_most {b : List Nat} {most p n q : Nat} (h : upR b most p = .ok (n, q)) : n ≤ most := by
  have := rdUpto_le b p 0 most
  rw [upR_ok h] at this
  exact this
/-- THE DOCUMENT'S READER STANDS AT q WITH THE ERROR e: what is read of R is 'rest', or R is that error. -/
def St {α : Type} (R rest : Rd α) (q : Nat) (e : Int) : Prop := (e = 0 ∧ R = rest) ∨ (e ≠ 0 ∧ R = .error (q, e))
theorem St.zero {α : Type} {R rest : Rd α} {q : Nat} (h : St R rest q 0) : R = rest := by
  rcases h with h | h
  · exact h.2
  · exact absurd rfl h.1
theorem St.bad {α : Type} {R rest : Rd α} {q : Nat} {e : Int} (h : St R rest q e) (he : e ≠ 0) : R = .error (q, e) := by
  rcases h with h | h
  · exact absurd h.1 he
  · exact h.2
theorem St.more {α : Type} {R rest rest2 : Rd α} {q : Nat} {e : Int} (h : St R rest q e) (he : e ≠ 0) : St R rest2 q e := .inr ⟨he, h.bad he⟩

/-- one step: a number -/
theorem St.up {α : Type} {R : Rd α} {b : List Nat} {most p : Nat} {f : Nat × Nat → Rd α} (h : R = match upR b most p with | .ok x => f x | .error x => .error x) :
    St R (f ((rdUpto b p 0 most).1, (rdUpto b p 0 most).2.1)) (rdUpto b p 0 most).2.1 (rdUpto b p 0 most).2.2 := by
  cases hu : upR b most p with
  | ok x =>
    obtain ⟨n, q⟩ := x
    have h1 := upR_ok hu
    rw [hu] at h
    rw [h1]
    exact .inl ⟨rfl, h⟩
  | error x =>
    obtain ⟨q, y⟩ := x
    have h1 := upR_errD hu
    rw [hu] at h
    rw [h1.1]
    exact .inr ⟨h1.2, h⟩
/-- one reading behind the other -/
theorem St.bind {α β : Type} {R : Rd α} {S : Rd β} {g : Rd β → Rd α} (hg : ∀ x, g (.error x) = .error x) {q q2 : Nat} {e e2 : Int} {y : β} (h : St R (g S) q e) (h2 : St (if e = 0 then S else .error (q, e)) (.ok (y, q2)) q2 e2) : St R (g (.ok (y, q2))) q2 e2 := by
  by_cases he : e = 0
  · subst he
    rw [if_pos rfl] at h2
    rw [h.zero]
    rcases h2 with ⟨h3, h4⟩ | ⟨h3, h4⟩
    · exact .inl ⟨h3, by rw [h4]⟩
    · exact .inr ⟨h3, by rw [h4, hg]⟩
  · rw [if_neg he] at h2
    rcases h2 with ⟨_, h4⟩ | ⟨h3, h4⟩
    · cases h4
    · exact .inr ⟨h3, by rw [h.bad he]; simp only [Except.error.injEq] at h4 ⊢; exact h4⟩
/-- from any state -/
theorem St.upE {α : Type} {S : Rd α} {b : List Nat} {most p : Nat} (e : Int) {f : Nat × Nat → Rd α} (h : S = match upR b most p with | .ok x => f x | .error x => .error x) :
    St (if e = 0 then S else .error (p, e)) (f ((rdUpto b p e most).1, (rdUpto b p e most).2.1)) (rdUpto b p e most).2.1 (rdUpto b p e most).2.2 := by
  by_cases he : e = 0
  · subst he
    rw [if_pos rfl]
    exact St.up h
  · rw [if_neg he, rdUpto_stuck b p most he]
    exact .inr ⟨he, rfl⟩
theorem rdRaw10 (b : List Nat) (p : Nat) (hp : p ≤ b.length) : rdRaw b p 0 10 = if p + 10 ≤ b.length then ((b.drop p).take 10, p + 10, 0) else ([], p, 10) := by
  unfold rdRaw
  rw [if_neg (by simp), if_neg (by omega)]
  by_cases h : p + 10 ≤ b.length
  · rw [if_neg (by omega), if_pos h]; rfl
  · rw [if_pos (by omega), if_neg h]
/-- the keys' loop -/
theorem keysR_short {b : List Nat} {n p : Nat} {L : List K} (h : ¬ p + 10 ≤ b.length) : keysR b (n + 1) L p = .error (p, 10) := by
  show (match keyR b p with | .error x => _ | .ok (k, q) => _) = _
  unfold keyR
  rw [if_neg h]
theorem keysR_next {b : List Nat} {n p : Nat} {L : List K} (h : p + 10 ≤ b.length) : keysR b (n + 1) L p = if L ≠ [] ∧ lt (kd L (L.length - 1)) (fromK ((b.drop p).take 10)) = false then .error (p, 65) else keysR b n (L ++ [fromK ((b.drop p).take 10)]) (p + 10) := by
  show (match keyR b p with | .error x => _ | .ok (k, q) => _) = _
  unfold keyR
  rw [if_pos h]
theorem keysR_len {b : List Nat} : ∀ {n p : Nat} {L M : List K} {q : Nat}, keysR b n L p = .ok (M, q) → M.length = L.length + n
  | 0, p, L, M, q, h => by
    simp only [keysR, Except.ok.injEq, Prod.mk.injEq] at h
    rw [h.1]; rfl
  | n + 1, p, L, M, q, h => by
    by_cases h1 : p + 10 ≤ b.length
    · rw [keysR_next h1] at h
      split at h
      · cases h
      · have := keysR_len h
        rw [List.length_append, List.length_singleton] at this
        omega
    · rw [keysR_short h1] at h; cases h
theorem argsR_step {b : List Nat} {n p : Nat} {A : List Int} : argsR b (n + 1) A p = match upR b 18446744073709551615 p with | .ok x => argsR b n (A ++ [unfold x.1]) x.2 | .error x => .error x := by
  show (match intR b p with | .ok (x, q) => _ | .error x => _) = _
  unfold intR
  cases upR b 18446744073709551615 p with
  | ok x => rfl
  | error x => rfl
theorem setR_def (b : List Nat) (most p : Nat) : setR b most p = match upR b most p with | .ok x => keysR b x.1 [] x.2 | .error x => .error x := by
  unfold setR
  cases upR b most p <;> rfl
theorem argR_def (b : List Nat) (p : Nat) : argR b p = match upR b 16 p with | .ok x => argsR b x.1 [] x.2 | .error x => .error x := by
  unfold argR
  cases upR b 16 p <;> rfl
/-- what a transaction's reading is, part by part -/
def tx1 (b : List Nat) (n : Nat) (R : Rd (List Int)) : Rd Tp := match R with
  | .error x => .error x
  | .ok (A, p2) => match setR b 16 p2 with
    | .error x => .error x
    | .ok (R, p3) => match setR b 16 p3 with
      | .error x => .error x
      | .ok (V, p4) => .ok (⟨n, A, R, V⟩, p4)
def tx2 (b : List Nat) (n : Nat) (A : List Int) (R : Rd (List K)) : Rd Tp := match R with
  | .error x => .error x
  | .ok (R, p3) => match setR b 16 p3 with
      | .error x => .error x
      | .ok (V, p4) => .ok (⟨n, A, R, V⟩, p4)
def tx3 (n : Nat) (A : List Int) (L : List K) (R : Rd (List K)) : Rd Tp := match R with
  | .error x => .error x
  | .ok (V, p4) => .ok (⟨n, A, L, V⟩, p4)
theorem txR_def (b : List Nat) (p : Nat) : txR b p = match upR b 63 p with | .ok x => tx1 b x.1 (argR b x.2) | .error x => .error x := by
  unfold txR tx1
  cases upR b 63 p with
  | ok x => rfl
  | error x => rfl
theorem tx1_ok (b : List Nat) (n : Nat) (A : List Int) (q : Nat) : tx1 b n (.ok (A, q)) = tx2 b n A (setR b 16 q) := rfl
theorem tx1_err (b : List Nat) (n : Nat) (x : Nat × Int) : tx1 b n (.error x) = .error x := rfl
theorem tx2_ok (b : List Nat) (n : Nat) (A : List Int) (L : List K) (q : Nat) : tx2 b n A (.ok (L, q)) = tx3 n A L (setR b 16 q) := rfl
theorem tx2_err (b : List Nat) (n : Nat) (A : List Int) (x : Nat × Int) : tx2 b n A (.error x) = .error x := rfl
theorem tx3_ok (n : Nat) (A : List Int) (L V : List K) (q : Nat) : tx3 n A L (.ok (V, q)) = .ok (⟨n, A, L, V⟩, q) := rfl
theorem tx3_err (n : Nat) (A : List Int) (L : List K) (x : Nat × Int) : tx3 n A L (.error x) = .error x := rfl
theorem batR_def (b : List Nat) (p : Nat) : batR b p = match upR b 64 p with | .ok x => txsR b x.1 [] x.2 | .error x => .error x := by
  unfold batR
  cases upR b 64 p <;> rfl
theorem txsR_step {b : List Nat} {n p : Nat} {T : List Tp} : txsR b (n + 1) T p = match txR b p with | .ok x => txsR b n (T ++ [x.1]) x.2 | .error x => .error x := by
  show (match txR b p with | .ok (x, q) => _ | .error x => _) = _
  cases txR b p <;> rfl
end Go.Proofs.YtlilaicgmdbhcaaDoor.Kk
/-
  ROWS OF TRANSACTIONS AND OF NUMBERS OF THE CALL'S OWN; append.
-/
namespace Go.Proofs.YtlilaicgmdbhcaaDoor.Kk
open Go.RowKit Go.Sort

theorem bxcs_one (Ps : List Bx) : ∀ v ∈ bxcs Ps, v.oneCell' = true := by
  induction Ps with
  | nil => simp [bxcs]
  | cons x Ps ih =>
    intro v hv
    rcases List.mem_append.1 (show v ∈ bxc x ++ bxcs Ps from hv) with h | h
    · simp only [bxc, List.mem_cons, List.not_mem_nil, or_false] at h
      rcases h with rfl | rfl | rfl | rfl <;> rfl
    · exact ih v h
def OwnT (w : World) (base : Nat) (v : Value) (Ps : List Bx) : Prop := w.ownsRow base 62 4 v Ps.length (bxcs Ps)
theorem OwnT.nil (w : World) (base : Nat) : OwnT w base (.slice none 0 0) [] := World.ownsRow_nil _ _ _ _
theorem OwnT.shape {w : World} {base : Nat} {v : Value} {Ps : List Bx} (h : OwnT w base v Ps) :
    (v = .slice none 0 0 ∧ Ps = []) ∨ ∃ g cap, v = .slice (some ⟨g, 0, none⟩) Ps.length cap ∧ base ≤ g ∧ g < w.heap.size ∧ Ps.length ≤ cap ∧ cap ≤ maxLen ∧ TxsAt w (some ⟨g, 0, none⟩) Ps := by
  obtain ⟨hl, h⟩ := h
  rcases h with ⟨rfl, h0⟩ | ⟨g, cap, cur, rfl, hb, hg, hn, hm, hs, ht⟩
  · exact .inl ⟨rfl, List.eq_nil_of_length_eq_zero h0⟩
  · refine .inr ⟨g, cap, rfl, hb, (Array.getElem?_eq_some_iff.1 hg).1, hn, hm, .inr ⟨g, 0, rfl, fun j u hu => ?_⟩⟩
    have hj : j < Ps.length * 4 := by rw [← bxcs_length]; exact (List.getElem?_eq_some_iff.1 hu).1
    have e := World.ownsRow.cellAt (w := w) (base := base) (e := 62) (size := 4) (g := g) (cap := cap) ⟨hl, .inr ⟨g, cap, cur, rfl, hb, hg, hn, hm, hs, ht⟩⟩ j hj
    rw [Nat.zero_add, e, hu]
theorem OwnT.slice {w : World} {base : Nat} {v : Value} {Ps : List Bx} (h : OwnT w base v Ps) : ∃ ao cap, v = .slice ao Ps.length cap ∧ TxsAt w ao Ps ∧ (ao = none → cap = 0) ∧ Ps.length ≤ cap := by
  rcases h.shape with ⟨rfl, rfl⟩ | ⟨g, cap, rfl, _, _, hc, _, hb⟩
  · exact ⟨none, 0, rfl, .inl rfl, fun _ => rfl, by simp⟩
  · exact ⟨_, cap, rfl, hb, by simp, hc⟩
theorem OwnT.alloc {w : World} {base : Nat} {v : Value} {Ps : List Bx} (h : OwnT w base v Ps) (o : Obj) : OwnT (w.alloc o) base v Ps := World.ownsRow.alloc h o
theorem OwnT.mono {w : World} {base base' : Nat} {v : Value} {Ps : List Bx} (h : OwnT w base v Ps) (hb : base' ≤ base) : OwnT w base' v Ps := by
  obtain ⟨hl, h⟩ := h
  refine ⟨hl, ?_⟩
  rcases h with h | ⟨g, cap, cur, e, hg, r⟩
  · exact .inl h
  · exact .inr ⟨g, cap, cur, e, by omega, r⟩
theorem OwnT.lt {w : World} {base : Nat} {v : Value} {Ps : List Bx} (h : OwnT w base v Ps) : ∀ k, v.ownBlock = some k → base ≤ k ∧ k < w.heap.size := World.ownsRow.lt h
theorem OwnT.same {w w1 : World} {base : Nat} {v : Value} {Ps : List Bx} (h : OwnT w base v Ps) (hs : ∀ g, v.ownBlock = some g → w1.heap[g]? = w.heap[g]?) : OwnT w1 base v Ps := by
  obtain ⟨hl, h⟩ := h
  refine ⟨hl, ?_⟩
  rcases h with h | ⟨g, cap, cur, rfl, hg, hh, r⟩
  · exact .inl h
  · exact .inr ⟨g, cap, cur, rfl, hg, (hs g rfl).trans hh, r⟩
theorem OwnT.kept {w w1 : World} {base : Nat} {v : Value} {Ps : List Bx} (h : OwnT w base v Ps) (hb : Below w.heap.size w w1) : OwnT w1 base v Ps :=
  h.same fun g hg => hb.block g (h.lt g hg).2
theorem run_append_txs {w : World} (ty : TypeId) (base : Nat) (v : Value) (Ps : List Bx) (hown : OwnT w base v Ps)
    (ad : Addr) (m c : Nat) (Qs : List Bx) (hm : m = Qs.length) (hsrc : ∀ j u, (bxcs Qs)[j]? = some u → w.cell? (ad.add j) = some u) (hlen : (Ps.length + Qs.length) * 80 ≤ 140737488355328) (hbase : base ≤ w.heap.size) :
    ∃ v' w', (Builtin.append_ #[25, 25] ty #[v, .slice (some ad) m c]).run Tryd.prog w = .ok v' w' ∧ OwnT w' base v' (Ps ++ Qs) ∧ w.grownBy w' v.ownBlock ∧ (v'.ownBlock = v.ownBlock ∨ v'.ownBlock = some w.heap.size) := by
  obtain ⟨i0, hi, hz0, hz1, hz2⟩ := info_parts infoT
  subst hm
  obtain ⟨v', w', hr, h2, h3, _, h5⟩ := run_append_own_at (P := Tryd.prog) w base 25 ty 62 i0 (.agg #[.int .i64 0, .slice none 0 0, .slice none 0 0, .slice none 0 0]) 4 80 Tryd.underlying25 hi hz0 hz1 hz2 rfl (by decide) v Ps.length (bxcs Ps) hown ad Qs.length c (bxcs Qs) (bxcs_length Qs)
      hsrc (bxcs_one Qs) (by unfold maxLen; omega) hlen hbase
  exact ⟨v', w', hr, by unfold OwnT; rw [List.length_append, bxcs_append]; exact h2, h3, h5⟩
theorem wpList_append_txs {w : World} {ops : Array Oper} {rest : List Oper} {o : Oper} {a : Act} {Q : Exit → Act → World → Prop} (hgd : o.guard = none) (s x : Operand)
    (ho : o.op = .call { callee := .builtin .append, args := #[s, x], argTypes := #[25, 25] }) (base : Nat) (v : Value) (Ps : List Bx) (hs : a.eval s = v) (hown : OwnT w base v Ps)
    (ad : Addr) (m c : Nat) (Qs : List Bx) (hx : a.eval x = .slice (some ad) m c) (hm : m = Qs.length) (hsrc : ∀ j u, (bxcs Qs)[j]? = some u → w.cell? (ad.add j) = some u) (hlen : (Ps.length + Qs.length) * 80 ≤ 140737488355328) (hbase : base ≤ w.heap.size)
    (h : ∀ v' w', OwnT w' base v' (Ps ++ Qs) → w.grownBy w' v.ownBlock → (v'.ownBlock = v.ownBlock ∨ v'.ownBlock = some w.heap.size) → wpList Tryd.prog ops Q rest (a.put o.dst v') w') : wpList Tryd.prog ops Q (o :: rest) a w := by
  obtain ⟨v', w', hr, h2, h3, h4⟩ := run_append_txs o.type base v Ps hown ad m c Qs hm hsrc hlen hbase
  refine wpList_plain hgd fun K hK' => ?_
  unfold Oper.wp
  simp [execOp, ho, resolve, invoke, builtin, hs, hx, hr, Result.andThen]
  exact hK' _ _ (h v' w' h2 h3 h4)
theorem step_append_txs {w : World} {ops : Array Oper} {o : Oper} {a : Act} {K' : Act → World → Prop} {Q : Exit → Act → World → Prop} {E : Prop} (hgd : o.guard = none) (s x : Operand)
    (ho : o.op = .call { callee := .builtin .append, args := #[s, x], argTypes := #[25, 25] }) (base : Nat) (v : Value) (Ps : List Bx) (hs : a.eval s = v) (hown : OwnT w base v Ps)
    (ad : Addr) (m c : Nat) (Qs : List Bx) (hx : a.eval x = .slice (some ad) m c) (hm : m = Qs.length) (hsrc : ∀ j u, (bxcs Qs)[j]? = some u → w.cell? (ad.add j) = some u) (hlen : (Ps.length + Qs.length) * 80 ≤ 140737488355328) (hbase : base ≤ w.heap.size)
    (h : ∀ v' w', OwnT w' base v' (Ps ++ Qs) → w.grownBy w' v.ownBlock → (v'.ownBlock = v.ownBlock ∨ v'.ownBlock = some w.heap.size) → K' (a.put o.dst v') w') :
    if Region.wanted o (yielded ops a.tmps) = true then Oper.wp Tryd.prog o a w K' Q else E := by
  have hw : Region.wanted o (yielded ops a.tmps) = true := by simp [Region.wanted, hgd]
  rw [if_pos hw]
  obtain ⟨v', w', hr, h2, h3, h4⟩ := run_append_txs o.type base v Ps hown ad m c Qs hm hsrc hlen hbase
  unfold Oper.wp execOp
  simp only [ho, resolve, invoke, builtin, Sem.run_bind, Sem.run_pure, Result.andThen_ok, List.map_toArray, List.map_cons, List.map_nil, hs, hx, hr]
  exact h v' w' h2 h3 h4
/-- one transaction, laid for an append -/
theorem tx_src (w : World) (B : Nat) (x : Bx) (hB : B = w.heap.size) : ∀ j u, (bxcs [x])[j]? = some u → (w.alloc (.cells #[.int .i64 x.t.proc, .slice x.aA x.t.args.length x.cA, .slice x.aR x.t.reads.length x.cR, .slice x.aW x.t.writes.length x.cW] 62)).cell? ((⟨B, 0, none⟩ : Addr).add j) = some u := by
  subst hB
  intro j u hu
  rw [addr_add, Nat.zero_add]
  have hb : (w.alloc (.cells #[.int .i64 x.t.proc, .slice x.aA x.t.args.length x.cA, .slice x.aR x.t.reads.length x.cR, .slice x.aW x.t.writes.length x.cW] 62)).heap[w.heap.size]? = some (.cells #[.int .i64 x.t.proc, .slice x.aA x.t.args.length x.cA, .slice x.aR x.t.reads.length x.cR, .slice x.aW x.t.writes.length x.cW] 62 (0, 0)) := heap_alloc_new _ _ rfl
  simp only [World.cell?, hb]
  have e : bxcs [x] = [.int .i64 x.t.proc, .slice x.aA x.t.args.length x.cA, .slice x.aR x.t.reads.length x.cR, .slice x.aW x.t.writes.length x.cW] := by simp [bxcs, bxc]
  rw [e] at hu
  simpa using hu
/-- numbers -/
def OwnN (w : World) (base : Nat) (v : Value) (L : List Int) : Prop := w.ownsRow base 2 1 v L.length (L.map iv)
theorem OwnN.nil (w : World) (base : Nat) : OwnN w base (.slice none 0 0) [] := World.ownsRow_nil _ _ _ _
theorem OwnN.shape {w : World} {base : Nat} {v : Value} {L : List Int} (h : OwnN w base v L) :
    (v = .slice none 0 0 ∧ L = []) ∨ ∃ g cap, v = .slice (some ⟨g, 0, none⟩) L.length cap ∧ base ≤ g ∧ g < w.heap.size ∧ L.length ≤ cap ∧ cap ≤ maxLen ∧ NumsAt w (some ⟨g, 0, none⟩) L := by
  obtain ⟨hl, h⟩ := h
  rcases h with ⟨rfl, h0⟩ | ⟨g, cap, cur, rfl, hb, hg, hn, hm, hs, ht⟩
  · exact .inl ⟨rfl, List.eq_nil_of_length_eq_zero h0⟩
  · refine .inr ⟨g, cap, rfl, hb, (Array.getElem?_eq_some_iff.1 hg).1, hn, hm, .inr ⟨g, 0, rfl, fun j u hu => ?_⟩⟩
    have hj : j < L.length * 1 := by have := (List.getElem?_eq_some_iff.1 hu).1; simpa using this
    have e := World.ownsRow.cellAt (w := w) (base := base) (e := 2) (size := 1) (g := g) (cap := cap) ⟨hl, .inr ⟨g, cap, cur, rfl, hb, hg, hn, hm, hs, ht⟩⟩ j hj
    rw [Nat.zero_add, e, hu]
theorem OwnN.slice {w : World} {base : Nat} {v : Value} {L : List Int} (h : OwnN w base v L) : ∃ ao cap, v = .slice ao L.length cap ∧ NumsAt w ao L ∧ (ao = none → cap = 0) ∧ L.length ≤ cap := by
  rcases h.shape with ⟨rfl, rfl⟩ | ⟨g, cap, rfl, _, _, hc, _, hb⟩
  · exact ⟨none, 0, rfl, .inl rfl, fun _ => rfl, by simp⟩
  · exact ⟨_, cap, rfl, hb, by simp, hc⟩
theorem OwnN.alloc {w : World} {base : Nat} {v : Value} {L : List Int} (h : OwnN w base v L) (o : Obj) : OwnN (w.alloc o) base v L := World.ownsRow.alloc h o
theorem OwnN.drewN {w : World} {base : Nat} {v : Value} {L : List Int} (h : OwnN w base v L) (n : Nat) : OwnN (w.drewN n) base v L := h
theorem OwnN.mono {w : World} {base base' : Nat} {v : Value} {L : List Int} (h : OwnN w base v L) (hb : base' ≤ base) : OwnN w base' v L := by
  obtain ⟨hl, h⟩ := h
  refine ⟨hl, ?_⟩
  rcases h with h | ⟨g, cap, cur, e, hg, r⟩
  · exact .inl h
  · exact .inr ⟨g, cap, cur, e, by omega, r⟩
theorem OwnN.lt {w : World} {base : Nat} {v : Value} {L : List Int} (h : OwnN w base v L) : ∀ k, v.ownBlock = some k → base ≤ k ∧ k < w.heap.size := World.ownsRow.lt h
theorem OwnN.same {w w1 : World} {base : Nat} {v : Value} {L : List Int} (h : OwnN w base v L) (hs : ∀ g, v.ownBlock = some g → w1.heap[g]? = w.heap[g]?) : OwnN w1 base v L := by
  obtain ⟨hl, h⟩ := h
  refine ⟨hl, ?_⟩
  rcases h with h | ⟨g, cap, cur, rfl, hg, hh, r⟩
  · exact .inl h
  · exact .inr ⟨g, cap, cur, rfl, hg, (hs g rfl).trans hh, r⟩
theorem OwnN.kept {w w1 : World} {base : Nat} {v : Value} {L : List Int} (h : OwnN w base v L) (hb : Below w.heap.size w w1) : OwnN w1 base v L :=
  h.same fun g hg => hb.block g (h.lt g hg).2

/-- append of one number -/
theorem run_append_num {w : World} (ty : TypeId) (base : Nat) (v : Value) (L : List Int) (hown : OwnN w base v L) (B : Nat) (x : Int) (hB : w.cell? ⟨B, 0, none⟩ = some (.int .i64 x)) (hlen : L.length + 1 ≤ 1000000) (hbase : base ≤ w.heap.size) :
    ∃ v' w', (Builtin.append_ #[59, 59] ty #[v, .slice (some ⟨B, 0, none⟩) 1 1]).run Tryd.prog w = .ok v' w' ∧ OwnN w' base v' (L ++ [x]) ∧ w.grownBy w' v.ownBlock ∧ (v'.ownBlock = v.ownBlock ∨ v'.ownBlock = some w.heap.size) := by
  obtain ⟨i0, hi, hz0, hz1, hz2⟩ := info_parts info64
  obtain ⟨v', w', hr, h2, h3, _, h5⟩ := run_append_own_at (P := Tryd.prog) w base 59 ty 2 i0 (.int .i64 0) 1 8 Tryd.underlying59 hi hz0 hz1 hz2 rfl (by decide) v L.length (L.map iv) hown ⟨B, 0, none⟩ 1 1 [.int .i64 x] (by simp)
    (by
      intro j u hu
      match j, hu with
      | 0, hu => simp at hu; rw [addr_add, ← hu]; exact hB
      | j + 1, hu => simp at hu) (by intro u hu; simp at hu; rw [hu]; rfl) (by unfold maxLen; omega) (by omega) hbase
  refine ⟨v', w', hr, ?_, h3, h5⟩
  unfold OwnN
  rw [List.length_append, List.map_append]
  exact h2
theorem wpList_append_num {w : World} {ops : Array Oper} {rest : List Oper} {o : Oper} {a : Act} {Q : Exit → Act → World → Prop} (hgd : o.guard = none) (s x : Operand)
    (ho : o.op = .call { callee := .builtin .append, args := #[s, x], argTypes := #[59, 59] }) (base : Nat) (v : Value) (L : List Int) (hs : a.eval s = v) (hown : OwnN w base v L)
    (B : Nat) (z : Int) (hx : a.eval x = .slice (some ⟨B, 0, none⟩) 1 1) (hB : w.cell? ⟨B, 0, none⟩ = some (.int .i64 z)) (hlen : L.length + 1 ≤ 1000000) (hbase : base ≤ w.heap.size)
    (h : ∀ v' w', OwnN w' base v' (L ++ [z]) → w.grownBy w' v.ownBlock → (v'.ownBlock = v.ownBlock ∨ v'.ownBlock = some w.heap.size) → wpList Tryd.prog ops Q rest (a.put o.dst v') w') : wpList Tryd.prog ops Q (o :: rest) a w := by
  obtain ⟨v', w', hr, h2, h3, h4⟩ := run_append_num o.type base v L hown B z hB hlen hbase
  refine wpList_plain hgd fun K hK' => ?_
  unfold Oper.wp
  simp [execOp, ho, resolve, invoke, builtin, hs, hx, hr, Result.andThen]
  exact hK' _ _ (h v' w' h2 h3 h4)

theorem step_append_num {w : World} {ops : Array Oper} {o : Oper} {a : Act} {K' : Act → World → Prop} {Q : Exit → Act → World → Prop} {E : Prop} (hgd : o.guard = none) (s x : Operand)
    (ho : o.op = .call { callee := .builtin .append, args := #[s, x], argTypes := #[59, 59] }) (base : Nat) (v : Value) (L : List Int) (hs : a.eval s = v) (hown : OwnN w base v L)
    (B : Nat) (z : Int) (hx : a.eval x = .slice (some ⟨B, 0, none⟩) 1 1) (hB : w.cell? ⟨B, 0, none⟩ = some (.int .i64 z)) (hlen : L.length + 1 ≤ 1000000) (hbase : base ≤ w.heap.size)
    (h : ∀ v' w', OwnN w' base v' (L ++ [z]) → w.grownBy w' v.ownBlock → (v'.ownBlock = v.ownBlock ∨ v'.ownBlock = some w.heap.size) → K' (a.put o.dst v') w') :
    if Region.wanted o (yielded ops a.tmps) = true then Oper.wp Tryd.prog o a w K' Q else E := by
  have hw : Region.wanted o (yielded ops a.tmps) = true := by simp [Region.wanted, hgd]
  rw [if_pos hw]
  obtain ⟨v', w', hr, h2, h3, h4⟩ := run_append_num o.type base v L hown B z hB hlen hbase
  unfold Oper.wp execOp
  simp only [ho, resolve, invoke, builtin, Sem.run_bind, Sem.run_pure, Result.andThen_ok, List.map_toArray, List.map_cons, List.map_nil, hs, hx, hr]
  exact h v' w' h2 h3 h4
end Go.Proofs.YtlilaicgmdbhcaaDoor.Kk
/-
  THE WALKS OF preluderef01.Reader's METHODS over bytes that are not its own: Bytes, End.
-/
namespace Go.Proofs.YtlilaicgmdbhcaaDoor
open Go.RowKit

theorem Mods.trans {w w1 w2 : World} {r : Nat} {a : Option Addr} {c : Nat} {b : List Nat} {p q : Nat} {e x : Int} (h : Mods w r a c b p e w1) (k : Mods w1 r a c b q x w2) : Mods w r a c b q x w2 := ⟨k.1, grown_trans' h.2 k.2⟩


theorem uEnd_any (w : World) (r : Nat) (ad : Option Addr) (c : Nat) (b : List Nat) (p : Nat) (e : Int) (h : IsMod w r ad c b p e) :
    Calls Tryd.prog 14 #[.pointer (some ⟨r, 0, none⟩)] w fun e' w' => e' = .returned (.int .i64 (rdEnd b p e)) ∧ ∃ q, w' = w.drewN q := by
  have HR : Hid (IsMod w r ad c b p e) := h
  have h0 := h.c0
  have h1 := h.c1
  have h2 := h.c2
  have hp := h.2.2.1
  have hl := h.2.2.2.1
  clear h
  by_cases he : e = 0
  · subst he
    by_cases hpl : p < b.length
    · have hpl' : (p : Int) < (b.length : Int) := by omega
      have HE : Hid (rdEnd b p 0 = 11) := by unfold rdEnd; rw [Hid, if_pos ⟨rfl, hpl⟩]
      clear hpl
      go_enter Tryd.func14, Tryd.ntmps14
      go_wp2
      go_quiet (fail)
      go_wp2
      go_ret
      exact ⟨by rw [HE.out]; rfl, _, rfl⟩
    · have hpl' : ¬ (p : Int) < (b.length : Int) := by omega
      have HE : Hid (rdEnd b p 0 = 0) := by unfold rdEnd; rw [Hid, if_neg (by omega)]
      clear hpl
      go_enter Tryd.func14, Tryd.ntmps14
      go_wp2
      go_quiet (fail)
      go_wp2
      go_ret
      exact ⟨by rw [HE.out]; rfl, _, rfl⟩
  · have he' : (e == 0) = false := by rw [beq_eq_false_iff_ne]; exact he
    have HE : Hid (rdEnd b p e = e) := by unfold rdEnd; rw [Hid, if_neg (by omega)]
    clear he
    go_enter Tryd.func14, Tryd.ntmps14
    go_wp2
    go_quiet (fail)
    go_wp2
    go_ret
    exact ⟨by rw [HE.out]; rfl, _, rfl⟩

end Go.Proofs.YtlilaicgmdbhcaaDoor
