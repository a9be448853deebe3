/-
  SOURCE: what Tokens knows in its loop; wrongAt, start, Clone.
-/
import Derived.Test.YtlabofafmcbfmaaGreatDoorSrMem
namespace Go.Proofs.YtlabofafmcbfmaaGreatDoor
open Go.RowKit Go.Sort Go.Shelf

def ErrAt (W : World) (v : Value) (line col : Nat) (n : Int) : Prop := ∃ b, v = .iface 54 (.pointer (some ⟨b, 0, none⟩)) ∧ W.heap[b]? = some (.cells #[.int .i64 (line : Int), .int .i64 (col : Int), .iface 45 (.int .i64 n)] 58 (0, 0))
theorem ErrAt.kept {W W' : World} {v : Value} {line col : Nat} {n : Int} (h : ErrAt W v line col n) (hb : Below W.heap.size W W') : ErrAt W' v line col n := by
  obtain ⟨b, h1, h2⟩ := h
  exact ⟨b, h1, (hb.block b (Array.getElem?_eq_some_iff.1 h2).1).trans h2⟩
theorem wrongAtS_any (w : World) (line col : Nat) (n : Int) : Calls Tryz.prog 19 #[.agg #[.int .i64 (line : Int), .int .i64 (col : Int)], .int .i64 n] w fun e w' => ∃ v, e = .returned v ∧ ErrAt w' v line col n ∧ Below w.heap.size w w' := by
  go_enter Tryz.func19, Tryz.ntmps19
  go_wp2
  go_ret
  exact ⟨_, rfl, ⟨_, rfl, heap_alloc_new _ _ (by simp)⟩, ((Below.refl _ _).alloc (Nat.le_refl _) _).alloc (by simp) _⟩
theorem cloneLite_any (w : World) (s : ByteArray) (hs : s.size ≤ 281474976710656) : Calls Tryz.prog 26 #[.string s] w fun e w' => e = .returned (.string s) ∧ Below w.heap.size w w' :=
  Any.stringslite_Clone laysM316 s w hs
theorem cloneS_any (w : World) (s : ByteArray) (hs : s.size ≤ 281474976710656) : Calls Tryz.prog 15 #[.string s] w fun e w' => e = .returned (.string s) ∧ Below w.heap.size w w' := by
  have HC := cloneLite_any w s hs
  go_enter Tryz.func15, Tryz.ntmps15
  go_wp2_with fail
  refine HC.mono ?_
  rintro e w1 ⟨rfl, hb⟩
  go_wp2_with fail
  go_ret
  exact ⟨rfl, hb⟩
theorem start_any (w : World) : Calls Tryz.prog 16 #[] w fun e w' => e = .returned (.agg #[.int .i64 1, .int .i64 1]) ∧ Below w.heap.size w w' := by
  have hb : Below w.heap.size w (w.alloc (.cells #[.int .i64 1, .int .i64 1] 34)) := bel_al w _
  go_enter Tryz.func16, Tryz.ntmps16
  go_wp2
  exact bodyPost_ret (v := .agg #[.int .i64 1, .int .i64 1]) (by simp [results, Tryz.results16, go_sem]) rfl ⟨rfl, hb⟩
/-- the rest of the tokens, at a place where no gap stands -/
def tkE (L : List UInt8) (f e : Nat) (acc : List Tok) : TR :=
  if (L.drop e) = [] then .ok acc
  else match tokA (L.drop e) with
    | .er x => .er (spO L e) x
    | .ok kd t n => tkR L f (e + t.length) (acc ++ [(kd, t, n, spO L e)])
theorem tkR_tkE (L : List UInt8) (f k : Nat) (acc : List Tok) : tkR L (f + 1) k acc = tkE L f (k + KL (L.drop k)) acc := rfl
theorem spO_add (L : List UInt8) (k n : Nat) : spL (spO L k) ((L.drop k).take n) = spO L (k + n) := by
  unfold spO
  rw [← spL_app, List.take_add]
theorem skL_at (L : List UInt8) (k : Nat) : skL (L.drop k) (spO L k) = (L.drop (k + KL (L.drop k)), spO L (k + KL (L.drop k))) := by
  rw [skL_KL, List.drop_drop, spO_add]
theorem spO_le (L : List UInt8) (k : Nat) : (spO L k).1 ≤ 1 + k ∧ (spO L k).2 ≤ 1 + k := by
  have h := spL_pos (L.take k) (1, 1)
  have h2 : (L.take k).length ≤ k := by rw [List.length_take]; omega
  simp only at h
  unfold spO
  exact ⟨by omega, by omega⟩
/-- what the loop of Tokens knows -/
structure TI (w : World) (sb : Nat) (L : List UInt8) (U : World) (k : Nat) (av : Value) (acc : List Tok) : Prop where
  sbx : SB U sb (L.drop k) (spO L k)
  own : OwnT U (sb + 1) av acc
  bel : Below w.heap.size w U
  sbl : w.heap.size ≤ sb
theorem TI.below {w : World} {sb : Nat} {L : List UInt8} {U U' : World} {k : Nat} {av : Value} {acc : List Tok} (h : TI w sb L U k av acc) (hb : Below U.heap.size U U') : TI w sb L U' k av acc :=
  ⟨h.sbx.kept hb, h.own.kept hb, h.bel.trans (hb.mono h.bel.size), h.sbl⟩
theorem TI.t1 {w : World} {sb : Nat} {L : List UInt8} {U U' : World} {k k' : Nat} {av : Value} {acc : List Tok} (h : TI w sb L U k av acc) (ht : T1 sb U U') (hs : SB U' sb (L.drop k') (spO L k')) : TI w sb L U' k' av acc :=
  ⟨hs, ownsRow_same h.own (fun g hg => ht.block g (World.ownsRow.lt h.own g hg).2 (by have := (World.ownsRow.lt h.own g hg).1; omega)), ⟨ht.os.trans h.bel.os, ht.tape.trans h.bel.tape, ht.output.trans h.bel.output, Nat.le_trans h.bel.size ht.size, fun q hq => (ht.block q (Nat.lt_of_lt_of_le hq h.bel.size) (by have := h.sbl; omega)).trans (h.bel.block q hq)⟩, h.sbl⟩
theorem TI.app {w : World} {sb : Nat} {L : List UInt8} {U U' : World} {k : Nat} {av av' : Value} {acc acc' : List Tok} (h : TI w sb L U k av acc) (ho : OwnT U' (sb + 1) av' acc') (hg : U.grownBy U' av.ownBlock) : TI w sb L U' k av' acc' :=
  ⟨(hg.block sb (blk_lt h.sbx) (fun e => by have := (World.ownsRow.lt h.own sb e.symm).1; omega)).trans h.sbx, ho, h.bel.trans ((below_grownS hg (B := sb + 1) (fun g hg2 => (World.ownsRow.lt h.own g hg2).1) (blk_lt h.sbx)).mono (by have := h.sbl; omega)), h.sbl⟩
theorem T1.row5 {sb : Nat} {w w' : World} {R : Nat} {v0 v1 v2 v3 v4 : Value} (h : T1 sb w w') (hr : Row5 w R v0 v1 v2 v3 v4) (hn : R ≠ sb) : Row5 w' R v0 v1 v2 v3 v4 := (h.block R (blk_lt hr) hn).trans hr
theorem Row5.al (U : World) (v0 v1 v2 v3 v4 : Value) : Row5 (U.alloc (.cells #[v0, v1, v2, v3, v4] 36)) U.heap.size v0 v1 v2 v3 v4 := Row5.new U _ _ _ _ _
/-- what Tokens leaves -/
def TksPost (w : World) (r : TR) (e : Ending) (w' : World) : Prop := match r with
  | .ok ts => ∃ a c, e = .returned (.tuple #[.slice a ts.length c, .nilIface]) ∧ OwnT w' w.heap.size (.slice a ts.length c) ts ∧ Below w.heap.size w w'
  | .er p x => ∃ v, e = .returned (.tuple #[.slice none 0 0, v]) ∧ ErrAt w' v p.1 p.2 (x : Int) ∧ Below w.heap.size w w'
end Go.Proofs.YtlabofafmcbfmaaGreatDoor
