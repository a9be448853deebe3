import Derived.Test.YtcaibgbhebldmaaGreatJ06
import Derived.Test.YtcaibgbhebldmaaGreatJ03
/-
  PROCEDURES IN MEMORY.
-/
namespace Go.Proofs.YtcaibgbhebldmaaGreat
open Go.RowKit Go.Sort

/-- a procedure: its name, its program -/
structure Pr where
  name : ByteArray
  p : Nums
  ao : Option Addr
  n : Nat
  cap : Nat
  L : List K
def prc (x : Pr) : List Value := [.string x.name, .int .i64 x.p.args, .int .i64 x.p.reads, .int .i64 x.p.writes, .int .i64 x.p.locals, .slice x.ao x.n x.cap]
abbrev prv (x : Pr) : Value := .agg #[.string x.name, .int .i64 x.p.args, .int .i64 x.p.reads, .int .i64 x.p.writes, .int .i64 x.p.locals, .slice x.ao x.n x.cap]
def prcs : List Pr → List Value
  | [] => []
  | x :: Ps => prc x ++ prcs Ps
theorem prcs_length : ∀ Ps : List Pr, (prcs Ps).length = Ps.length * 6
  | [] => rfl
  | x :: Ps => by simp [prcs, prc, prcs_length Ps]; omega
def prD : Pr := ⟨⟨#[]⟩, ⟨0, 0, 0, 0⟩, none, 0, 0, []⟩
def pd (Ps : List Pr) (j : Nat) : Pr := Ps.getD j prD
theorem pd_mem {Ps : List Pr} {j : Nat} (h : j < Ps.length) : pd Ps j ∈ Ps := by
  simp [pd, List.getD_eq_getElem?_getD, List.getElem?_eq_getElem h]
theorem pd_take (Ps : List Pr) (j : Nat) (h : j < Ps.length) : Ps.take (j + 1) = Ps.take j ++ [pd Ps j] := by
  rw [List.take_succ_eq_append_getElem h]
  simp [pd, List.getD_eq_getElem?_getD, List.getElem?_eq_getElem h]
theorem pd_takeD (Ps : List Pr) (j k : Nat) (h : j < k) : pd (Ps.take k) j = pd Ps j := by
  simp [pd, List.getD_eq_getElem?_getD, h]
theorem prcs_at : ∀ (Ps : List Pr) (j i : Nat), j < Ps.length → i < 6 → (prcs Ps)[j * 6 + i]? = (prc (pd Ps j))[i]?
  | [], j, i, h, _ => by simp at h
  | x :: Ps, 0, i, _, hi => by
    have hl : (prc x).length = 6 := rfl
    simp only [prcs, pd, Nat.zero_mul, Nat.zero_add]
    rw [List.getElem?_append_left (by rw [hl]; exact hi)]; rfl
  | x :: Ps, j + 1, i, h, hi => by
    have hl : (prc x).length = 6 := rfl
    have ih := prcs_at Ps j i (by simp at h; omega) hi
    simp only [prcs]
    rw [List.getElem?_append_right (by rw [hl]; omega), hl, show (j + 1) * 6 + i - 6 = j * 6 + i by omega, ih]
    simp [pd]
/-- WHERE PROCEDURES LIE -/
def ProcsAt (W : World) (ao : Option Addr) (Ps : List Pr) : Prop :=
  Ps = [] ∨ ∃ b off, ao = some ⟨b, off, none⟩ ∧ ∀ j u, (prcs Ps)[j]? = some u → W.cell? ⟨b, off + j, none⟩ = some u
theorem ProcsAt.get {W : World} {ao : Option Addr} {Ps : List Pr} (h : ProcsAt W ao Ps) (j : Nat) (hj : j < Ps.length) : ∃ b off, ao = some ⟨b, off, none⟩ ∧ W.cell? ⟨b, off + j * 6, none⟩ = some (.string (pd Ps j).name) ∧
    W.cell? ⟨b, off + j * 6 + 1, none⟩ = some (.int .i64 (pd Ps j).p.args) ∧ W.cell? ⟨b, off + j * 6 + 2, none⟩ = some (.int .i64 (pd Ps j).p.reads) ∧ W.cell? ⟨b, off + j * 6 + 3, none⟩ = some (.int .i64 (pd Ps j).p.writes) ∧
    W.cell? ⟨b, off + j * 6 + 4, none⟩ = some (.int .i64 (pd Ps j).p.locals) ∧ W.cell? ⟨b, off + j * 6 + 5, none⟩ = some (.slice (pd Ps j).ao (pd Ps j).n (pd Ps j).cap) := by
  rcases h with rfl | ⟨b, off, rfl, hc⟩
  · simp at hj
  · refine ⟨b, off, rfl, ?_, ?_, ?_, ?_, ?_, ?_⟩
    · exact hc (j * 6) _ (prcs_at Ps j 0 hj (by omega))
    · exact hc (j * 6 + 1) _ (prcs_at Ps j 1 hj (by omega))
    · exact hc (j * 6 + 2) _ (prcs_at Ps j 2 hj (by omega))
    · exact hc (j * 6 + 3) _ (prcs_at Ps j 3 hj (by omega))
    · exact hc (j * 6 + 4) _ (prcs_at Ps j 4 hj (by omega))
    · exact hc (j * 6 + 5) _ (prcs_at Ps j 5 hj (by omega))
theorem ProcsAt.lt {W : World} {ao : Option Addr} {Ps : List Pr} (h : ProcsAt W ao Ps) : ∀ a, Ps ≠ [] → ao = some a → a.block < W.heap.size := by
  intro a hne e
  have h0 : 0 < Ps.length := by cases Ps with | nil => exact absurd rfl hne | cons _ _ => simp
  obtain ⟨b, off, e1, hc, _⟩ := h.get 0 h0
  rw [e1] at e
  cases e
  exact cell_lt hc
theorem ProcsAt.below {W W' : World} {ao : Option Addr} {Ps : List Pr} {B : Nat} (h : ProcsAt W ao Ps) (hb : Below B W W') (hlt : ∀ a, Ps ≠ [] → ao = some a → a.block < B) : ProcsAt W' ao Ps := by
  rcases h with rfl | ⟨b, off, rfl, hc⟩
  · exact .inl rfl
  · refine .inr ⟨b, off, rfl, fun j u hu => ?_⟩
    have hne : Ps ≠ [] := by intro e; rw [e] at hu; simp [prcs] at hu
    have h1 := hc j u hu
    simp only [World.cell?] at h1 ⊢
    rw [hb.block b (hlt _ hne rfl)]; exact h1
theorem ProcsAt.kept {W W' : World} {ao : Option Addr} {Ps : List Pr} (h : ProcsAt W ao Ps) (hb : Below W.heap.size W W') : ProcsAt W' ao Ps := h.below hb h.lt
theorem ProcsAt.grew {W W' : World} {ao : Option Addr} {Ps : List Pr} (h : ProcsAt W ao Ps) (hg : Grew W W') : ProcsAt W' ao Ps := h.kept hg.below
theorem prcs_append (A B : List Pr) : prcs (A ++ B) = prcs A ++ prcs B := by
  induction A with
  | nil => rfl
  | cons k A ih => simp [prcs, ih]
theorem ProcsAt.take {W : World} {ao : Option Addr} {Ps : List Pr} (h : ProcsAt W ao Ps) (k : Nat) : ProcsAt W ao (Ps.take k) := by
  rcases h with rfl | ⟨b, off, rfl, hc⟩
  · left; simp
  · right
    refine ⟨b, off, rfl, fun j u hu => hc j u ?_⟩
    have e : prcs Ps = prcs (Ps.take k) ++ prcs (Ps.drop k) := by rw [← prcs_append, List.take_append_drop]
    rw [e, List.getElem?_append_left (List.getElem?_eq_some_iff.1 hu).1]; exact hu
/-- what a procedure holds -/
structure PrOK (W : World) (x : Pr) : Prop where
  len : x.n = x.L.length
  ks : KeysAt W x.ao x.L
  nin : NIn x.p
  kin : ∀ k ∈ x.L, KIn k
  nil : x.ao = none → x.cap = 0
  str : x.name.size ≤ 140737488351232
  big : x.n * 16 ≤ 140737488351232
theorem PrOK.kept {W W' : World} {x : Pr} (h : PrOK W x) (hb : Below W.heap.size W W') : PrOK W' x := ⟨h.len, h.ks.kept hb, h.nin, h.kin, h.nil, h.str, h.big⟩
/-- A LIBRARY -/
structure LibAt (W : World) (ao : Option Addr) (Ps : List Pr) : Prop where
  at_ : ProcsAt W ao Ps
  ok : ∀ x ∈ Ps, PrOK W x
theorem LibAt.kept {W W' : World} {ao : Option Addr} {Ps : List Pr} (h : LibAt W ao Ps) (hb : Below W.heap.size W W') : LibAt W' ao Ps := ⟨h.at_.kept hb, fun x hx => (h.ok x hx).kept hb⟩

/-- the first that is not 0, and its place -/
def firstP (f : Nat → Int) : Nat → Nat × Int
  | 0 => (0, 0)
  | k + 1 => if (firstP f k).2 ≠ 0 then firstP f k else if f k ≠ 0 then (k, f k) else (0, 0)
theorem firstP_zero {f : Nat → Int} {k : Nat} (h : ∀ i, i < k → f i = 0) : firstP f k = (0, 0) := by
  induction k with
  | zero => rfl
  | succ k ih =>
    have e := ih (fun i hi => h i (by omega))
    simp only [firstP, e, h k (by omega)]; rfl
theorem firstP_stop {f : Nat → Int} {k n : Nat} (h : ∀ i, i < k → f i = 0) (hk : f k ≠ 0) (hn : k < n) : firstP f n = (k, f k) := by
  induction n with
  | zero => omega
  | succ n ih =>
    by_cases e : k = n
    · subst e; simp only [firstP, firstP_zero h]; rw [if_neg (by simp), if_pos hk]
    · have := ih (by omega)
      simp only [firstP, this]; rw [if_pos hk]
end Go.Proofs.YtcaibgbhebldmaaGreat
/-
  THE WALK OF codec.fresh.
-/
namespace Go.Proofs.YtcaibgbhebldmaaGreat
open Go.RowKit

set_option maxHeartbeats 400000 in
theorem fresh_any (w : World) (ao : Option Addr) (cap n : Nat) (zs : List Nat) (hn : n = zs.length) (h : BytesAt w ao zs) (hm : n ≤ 281474976710656) :
    Calls Tryz.prog 57 #[.slice ao n cap] w fun e w' =>
      e = .returned (.slice (some ⟨w.heap.size, 0, none⟩) n n) ∧ RowAt w' w.heap.size zs ∧ Below w.heap.size w w' ∧ w'.heap.size = w.heap.size + 1 := by
  have hmk := make_bytes n (n : Int) rfl hm
  have hcp := copy_made w ao n n cap 3 zs hn h (by omega) Tryz.underlying23 size8
  rw [show n - zs.length = 0 by omega, List.replicate_zero, List.append_nil] at hcp
  have HR : Hid (RowAt (w.alloc (.cells (cellsU8 zs) 5)) w.heap.size zs) := rowAt_alloc w zs
  have HB : Hid (Below w.heap.size w (w.alloc (.cells (cellsU8 zs) 5))) := (Below.refl _ _).alloc (Nat.le_refl _) _
  clear h hn
  go_enter Tryz.func57, Tryz.ntmps57
  go_wp2
  go_ret
  exact ⟨rfl, HR.out, HB.out, by simp⟩

end Go.Proofs.YtcaibgbhebldmaaGreat
/-
  THE WALKS OF codec.Writer's METHODS.
-/
namespace Go.Proofs.YtcaibgbhebldmaaGreat
open Go.RowKit

/-- BLOCK r IS A Writer OF THE CALL's OWN THAT HAS THE BYTES L. -/
def IsWriter (w : World) (base r : Nat) (v : Value) (L : List Nat) : Prop := w.heap[r]? = some (.cells #[v] 120 (0, 0)) ∧ OwnB w base v L ∧ base ≤ r

theorem IsWriter.cell {w : World} {base r : Nat} {v : Value} {L : List Nat} (h : IsWriter w base r v L) : w.cell? ⟨r, 0, none⟩ = some v := by
  simp [World.cell?, h.1]
theorem IsWriter.frozen {w : World} {base r : Nat} {v : Value} {L : List Nat} (h : IsWriter w base r v L) : w.frozen? ⟨r, 0, none⟩ = false := frozen_of_row w r 0 _ _ h.1
theorem IsWriter.lt {w : World} {base r : Nat} {v : Value} {L : List Nat} (h : IsWriter w base r v L) : r < w.heap.size := (Array.getElem?_eq_some_iff.1 h.1).1
/-- a Writer's own block is none of bytes -/
theorem IsWriter.ne {w : World} {base r : Nat} {v : Value} {L : List Nat} (h : IsWriter w base r v L) : v.ownBlock ≠ some r := by
  obtain ⟨h1, ⟨_, _, h2 | ⟨g, cap, cur, rfl, _, hg, _⟩⟩, _⟩ := h
  · rw [h2.1]; simp [Value.ownBlock]
  · intro e
    simp only [Value.ownBlock, Option.some.injEq] at e
    subst e
    rw [hg] at h1
    simp at h1
theorem IsWriter.size {w : World} {base r : Nat} {v : Value} {L : List Nat} (h : IsWriter w base r v L) : base ≤ w.heap.size := Nat.le_of_lt (Nat.lt_of_le_of_lt h.2.2 h.lt)
/-- kept where nothing old turns but other rows -/
theorem IsWriter.grown {w w1 : World} {base r : Nat} {v : Value} {L : List Nat} {row : Option Nat} (h : IsWriter w base r v L) (hg : w.grownBy w1 row) (h1 : some r ≠ row) (h2 : v.ownBlock = none ∨ v.ownBlock ≠ row) : IsWriter w1 base r v L :=
  ⟨by rw [hg.block r h.lt h1]; exact h.1, h.2.1.grown hg h2, h.2.2⟩
theorem IsWriter.kept {w w1 : World} {base r : Nat} {v : Value} {L : List Nat} (h : IsWriter w base r v L) (hb : Below w.heap.size w w1) : IsWriter w1 base r v L :=
  ⟨by rw [hb.block r h.lt]; exact h.1, h.2.1.kept hb, h.2.2⟩
theorem IsWriter.drewN {w : World} {base r : Nat} {v : Value} {L : List Nat} (h : IsWriter w base r v L) (n : Nat) : IsWriter (w.drewN n) base r v L := h
/-- WHAT A CALL OF A Writer LEAVES: its own block and its row may turn, and new blocks; its new row is the old one or a new block. -/
structure Wrote (w w' : World) (r : Nat) (v v' : Value) : Prop where
  os : w'.os = w.os
  tape : w'.tape = w.tape
  output : w'.output = w.output
  size : w.heap.size ≤ w'.heap.size
  block : ∀ k, k < w.heap.size → k ≠ r → v.ownBlock ≠ some k → w'.heap[k]? = w.heap[k]?
  lies : ∀ k, v'.ownBlock = some k → v.ownBlock = some k ∨ w.heap.size ≤ k
theorem Wrote.refl (w : World) (r : Nat) (v : Value) : Wrote w w r v v := ⟨rfl, rfl, rfl, Nat.le_refl _, fun _ _ _ _ => rfl, fun _ h => .inl h⟩
theorem Wrote.trans {w w1 w2 : World} {r : Nat} {v v1 v2 : Value} (h : Wrote w w1 r v v1) (k : Wrote w1 w2 r v1 v2) : Wrote w w2 r v v2 := by
  refine ⟨k.os.trans h.os, k.tape.trans h.tape, k.output.trans h.output, Nat.le_trans h.size k.size, fun i hi hr hv => ?_, fun i hi => ?_⟩
  · rw [k.block i (Nat.lt_of_lt_of_le hi h.size) hr (fun e => ?_), h.block i hi hr hv]
    rcases h.lies i e with h1 | h1
    · exact hv h1
    · omega
  · rcases k.lies i hi with h1 | h1
    · exact h.lies i h1
    · exact .inr (Nat.le_trans h.size h1)
theorem Wrote.below {w w1 : World} {base r : Nat} {v v1 : Value} {L : List Nat} (h : Wrote w w1 r v v1) (hw : IsWriter w base r v L) : Below base w w1 := by
  refine ⟨h.os, h.tape, h.output, h.size, fun k hk => ?_⟩
  have hs := hw.size
  have hr := hw.2.2
  exact h.block k (by omega) (by omega) (fun e => by have := (hw.2.1.2.lt k e).1; omega)
theorem Wrote.bytes {w w1 : World} {r : Nat} {v v1 : Value} {ao : Option Addr} {zs : List Nat} (h : Wrote w w1 r v v1) (hb : BytesAt w ao zs) (hlt : ∀ a, zs ≠ [] → ao = some a → a.block ≠ r ∧ v.ownBlock ≠ some a.block) : BytesAt w1 ao zs := by
  have hl := hb.lt
  obtain ⟨hz, rfl | ⟨b, off, rfl, hc⟩⟩ := hb
  · exact ⟨hz, .inl rfl⟩
  · refine ⟨hz, .inr ⟨b, off, rfl, fun j hj => ?_⟩⟩
    have hne : zs ≠ [] := by intro e; rw [e] at hj; simp at hj
    have h1 := hlt _ hne rfl
    have h2 := h.block b (hl _ hne rfl) h1.1 h1.2
    have h3 := hc j hj
    simp only [World.cell?] at h3 ⊢
    rw [h2]; exact h3
/-- behind the append and the store -/
theorem IsWriter.stored {w w1 : World} {base r : Nat} {v v' : Value} {L L' : List Nat} (h : IsWriter w base r v L) (hg : w.grownBy w1 v.ownBlock) (ho : OwnB w1 base v' L') (hat : ∀ k, v'.ownBlock = some k → v.ownBlock = some k ∨ w.heap.size ≤ k) :
    IsWriter (w1.setCell ⟨r, 0, none⟩ v') base r v' L' ∧ Wrote w (w1.setCell ⟨r, 0, none⟩ v') r v v' := by
  have h1 : w1.heap[r]? = some (.cells #[v] 120 (0, 0)) := by rw [hg.block r h.lt (fun e => h.ne e.symm)]; exact h.1
  have hb : Wrote w (w1.setCell ⟨r, 0, none⟩ v') r v v' := ⟨hg.os, hg.tape, hg.output, by simpa using hg.size, fun k hk hr hv => (heap_setCell_other w1 ⟨r, 0, none⟩ k _ hr).trans (hg.block k hk (fun e => hv e.symm)), hat⟩
  refine ⟨⟨one_setCell h1, ⟨ho.1, ?_⟩, h.2.2⟩, hb⟩
  refine ownsRow_setCell_other ho.2 ?_ _
  intro e
  obtain ⟨_, _, h2 | ⟨g, cap, cur, rfl, _, hg', _⟩⟩ := ho
  · rw [h2.1] at e; simp [Value.ownBlock] at e
  · simp only [Value.ownBlock, Option.some.injEq] at e
    subst e
    rw [hg'] at h1
    simp at h1

theorem grown_alloc {w : World} {o : Obj} {row : Option Nat} (w1 : World) (h : (w.alloc o).grownBy w1 row) : w.grownBy w1 row :=
  ⟨h.os, h.tape, h.output, Nat.le_trans (by simp) h.size, fun k hk hne => (h.block k (by simp; omega) hne).trans (Below.heap_alloc w o k hk)⟩

theorem new_any (w : World) : Calls Tryz.prog 26 #[] w fun e w' => e = .returned (.pointer (some ⟨w.heap.size, 0, none⟩)) ∧ IsWriter w' w.heap.size w.heap.size (.slice none 0 0) [] ∧ Below w.heap.size w w' ∧ w'.heap.size = w.heap.size + 1 := by
  go_enter Tryz.func26, Tryz.ntmps26
  go_wp2
  go_ret
  refine ⟨rfl, ⟨?_, OwnB.nil _ _, Nat.le_refl _⟩, (Below.refl _ _).alloc (Nat.le_refl _) _, by simp⟩
  show (w.heap.push _)[w.heap.size]? = _
  simp

set_option maxHeartbeats 400000 in
theorem wByte_any (w : World) (base r z : Nat) (v : Value) (L : List Nat) (h : IsWriter w base r v L) (hz : z < 256) (hl : L.length + 1 ≤ 140737488355328) :
    Calls Tryz.prog 53 #[.pointer (some ⟨r, 0, none⟩), .int .u8 (z : Int)] w fun e w' => e = .returned (.tuple #[]) ∧ ∃ v', IsWriter w' base r v' (L ++ [z]) ∧ Wrote w w' r v v' := by
  have HW : Hid (IsWriter w base r v L) := h
  have hc := h.cell
  have hlt := h.lt
  clear h
  go_enter Tryz.func53, Tryz.ntmps53
  go_wp2_with (at_builtin; refine wpList_append_bytes_at rfl _ _ rfl base v L rfl (HW.out.2.1.alloc _) _ _ _ [z] rfl rfl (byte_src _ _ z rfl hz) (by simp) (by simpa using hl) (by have := HW.out.size; simp; omega) ?_; intro v' w1 hown1 hgrow1 hat1; obtain ⟨a', c', hv', _, _, _⟩ := hown1.slice; subst hv'; have hg1 := grown_alloc w1 hgrow1; have hc1 : w1.cell? ⟨r, 0, none⟩ = some v := hg1.cell hc (fun e => HW.out.ne e.symm); have hf1 : w1.frozen? ⟨r, 0, none⟩ = false := (World.frozen?_of_block (hg1.block r hlt (fun e => HW.out.ne e.symm))).trans HW.out.frozen; have HS := HW.out.stored hg1 hown1 (by intro k hk; rcases hat1 with e | e <;> rw [e] at hk <;> first | exact .inl hk | (simp at hk; exact .inr (by omega))); have HS' : Hid (IsWriter (w1.setCell ⟨r, 0, none⟩ (.slice a' (L ++ [z]).length c')) base r (.slice a' (L ++ [z]).length c') (L ++ [z]) ∧ Wrote w (w1.setCell ⟨r, 0, none⟩ (.slice a' (L ++ [z]).length c')) r v (.slice a' (L ++ [z]).length c')) := HS; clear HS hown1 hgrow1 hg1 hat1)
  go_end0
  exact ⟨rfl, _, by have h := HS'.out; rw [show (L ++ [z]).length = L.length + 1 from by simp] at h; exact h⟩

set_option maxHeartbeats 400000 in
theorem wRaw_any (w : World) (base r : Nat) (v : Value) (L zs : List Nat) (ao : Option Addr) (n cap : Nat) (h : IsWriter w base r v L) (hn : n = zs.length) (hb : BytesAt w ao zs) (hnil : ao = none → cap = 0) (hl : L.length + zs.length ≤ 140737488355328) :
    Calls Tryz.prog 56 #[.pointer (some ⟨r, 0, none⟩), .slice ao n cap] w fun e w' => e = .returned (.tuple #[]) ∧ ∃ v', IsWriter w' base r v' (L ++ zs) ∧ Wrote w w' r v v' := by
  have HW : Hid (IsWriter w base r v L) := h
  have HB : Hid (BytesAt w ao zs) := hb
  have HN : Hid (n = zs.length) := hn
  have hc := h.cell
  have hlt := h.lt
  clear h hb hn
  go_enter Tryz.func56, Tryz.ntmps56
  go_wp2_with (at_builtin; refine wpList_append_bytes_at rfl _ _ rfl base v L rfl HW.out.2.1 _ _ _ zs rfl HN.out HB.out hnil hl HW.out.size ?_; intro v' w1 hown1 hgrow1 hat1; obtain ⟨a', c', hv', _, _, _⟩ := hown1.slice; subst hv'; have hg1 := hgrow1; have hc1 : w1.cell? ⟨r, 0, none⟩ = some v := hg1.cell hc (fun e => HW.out.ne e.symm); have hf1 : w1.frozen? ⟨r, 0, none⟩ = false := (World.frozen?_of_block (hg1.block r hlt (fun e => HW.out.ne e.symm))).trans HW.out.frozen; have HS := HW.out.stored hg1 hown1 (by intro k hk; rcases hat1 with e | e <;> rw [e] at hk <;> first | exact .inl hk | (simp at hk; exact .inr (by omega))); have HS' : Hid (IsWriter (w1.setCell ⟨r, 0, none⟩ (.slice a' (L ++ zs).length c')) base r (.slice a' (L ++ zs).length c') (L ++ zs) ∧ Wrote w (w1.setCell ⟨r, 0, none⟩ (.slice a' (L ++ zs).length c')) r v (.slice a' (L ++ zs).length c')) := HS; clear HS hown1 hgrow1 hg1 hat1)
  go_end0
  exact ⟨rfl, _, by have h := HS'.out; rw [List.length_append] at h; exact h⟩

/-- a number without sign: seven bits a byte -/
def uint : Nat → Nat → List Nat
  | 0, n => [n % 256]
  | f + 1, n => if 128 ≤ n then (n % 128 + 128) :: uint f (n / 128) else [n]
theorem uint_more (f n : Nat) (h : 128 ≤ n) : uint (f + 1) n = (n % 128 + 128) :: uint f (n / 128) := by rw [uint, if_pos h]
theorem uint_last (f n : Nat) (h : ¬ 128 ≤ n) : uint (f + 1) n = [n] := by rw [uint, if_neg h]
theorem uint_lt : ∀ f n, ∀ z ∈ uint f n, z < 256
  | 0, n => by intro z hz; simp [uint] at hz; omega
  | f + 1, n => by
    intro z hz
    unfold uint at hz
    split at hz
    · rcases List.mem_cons.1 hz with rfl | h
      · omega
      · exact uint_lt f _ z h
    · simp at hz; omega
theorem uint_length : ∀ f n, (uint f n).length ≤ f + 1
  | 0, n => by simp [uint]
  | f + 1, n => by
    unfold uint
    split
    · have := uint_length f (n / 128); simp only [List.length_cons]; omega
    · simp
theorem or128 (n : Nat) : bits .or .u8 ((n : Int) % 256) 128 = ((n % 128 + 128 : Nat) : Int) := by
  have h := u8_or_nat (n % 256) 128 (by omega) (by omega)
  have e : (n % 256) ||| 128 = n % 128 + 128 := by
    have h1 : n % 256 = n % 128 + 128 * (n / 128 % 2) := by omega
    have h2 : ∀ a, a < 128 → ∀ b, b < 2 → (a + 128 * b) ||| 128 = a + 128 := by decide +kernel
    rw [h1]
    exact h2 _ (by omega) _ (by omega)
  rw [e] at h
  rw [show ((n : Int) % 256) = ((n % 256 : Nat) : Int) by omega]
  exact h

set_option maxHeartbeats 400000 in
theorem wUint_any (w : World) (base r n : Nat) (v : Value) (L : List Nat) (h : IsWriter w base r v L) (hn : n < 18446744073709551616) (hl : L.length + 11 ≤ 140737488355328) :
    Calls Tryz.prog 27 #[.pointer (some ⟨r, 0, none⟩), .int .u64 (n : Int)] w fun e w' => e = .returned (.tuple #[]) ∧ ∃ v', IsWriter w' base r v' (L ++ uint 10 n) ∧ Wrote w w' r v v' := by
  have HW : Hid (IsWriter w base r v L) := h
  clear h
  go_enter Tryz.func27, Tryz.ntmps27
  go_wp2
  go_loopw [1] (fun x wr => ∃ (m f : Nat) (M : List Nat) (v1 : Value), x = .int .u64 (m : Int) ∧ m < 2 ^ (7 * f + 1) ∧ f ≤ 9 ∧ M.length + f + 1 ≤ 11 ∧ Hid (M ++ uint (f + 1) m = uint 10 n) ∧ Hid (IsWriter wr base r v1 (L ++ M)) ∧ Hid (Wrote w wr r v v1)) (fun x _ => (intOf x).toNat)
  case atStart => exact ⟨n, 9, [], v, rfl, by omega, by omega, by simp, by simp [Hid], by rw [List.append_nil]; exact HW, Wrote.refl _ _ _⟩
  case round =>
    obtain ⟨m, f, M, v1, rfl, hm, hf, hML, hM, hW, hB⟩ := hrel
    have hml : m < 18446744073709551616 := by
      have : 2 ^ (7 * f + 1) ≤ 2 ^ 64 := Nat.pow_le_pow_right (by omega) (by omega)
      omega
    by_cases hge : 128 ≤ m
    · have hge' : (128 : Int) ≤ (m : Int) := by omega
      have hor := or128 m
      obtain ⟨f', rfl⟩ : ∃ f', f = f' + 1 := by
        cases f with
        | zero => simp at hm; omega
        | succ f => exact ⟨f, rfl⟩
      have HM : Hid ((M ++ [m % 128 + 128]) ++ uint (f' + 1) (m / 128) = uint 10 n) := by
        rw [Hid, ← hM.out, List.append_assoc]
        congr 1
        rw [uint_more _ _ hge]; rfl
      have hm7 : m / 128 < 2 ^ (7 * f' + 1) := by
        have e : 2 ^ (7 * (f' + 1) + 1) = 128 * 2 ^ (7 * f' + 1) := by rw [show 7 * (f' + 1) + 1 = 7 + (7 * f' + 1) by omega, Nat.pow_add]
        omega
      go_wp2_with fail
      rw [show ((m : Int) % 128 + 128) = ((m % 128 + 128 : Nat) : Int) by omega]
      refine (wByte_any wr base r (m % 128 + 128) v1 (L ++ M) hW.out (by omega) (by simp; omega)).mono ?_
      rintro e w1 ⟨rfl, v2, hw2, hb2⟩
      have HW2 : Hid (IsWriter w1 base r v2 (L ++ (M ++ [m % 128 + 128]))) := by rw [← List.append_assoc]; exact hw2
      have HB2 : Hid (Wrote w w1 r v v2) := hB.out.trans hb2
      clear hw2 hb2
      go_wp2
      go_roundw
      case rel => exact ⟨m / 128, f', M ++ [m % 128 + 128], v2, by go_num, hm7, by omega, by simp; omega, HM, HW2, HB2⟩
      case measure => simp [intOf]; omega
    · have hge' : ¬ (128 : Int) ≤ (m : Int) := by omega
      have HM : Hid (M ++ [m] = uint 10 n) := by
        rw [Hid, ← hM.out, uint_last _ _ hge]
      go_wp2_with fail
      refine (wByte_any wr base r m v1 (L ++ M) hW.out (by omega) (by simp; omega)).mono ?_
      rintro e w1 ⟨rfl, v2, hw2, hb2⟩
      have HW2 : Hid (IsWriter w1 base r v2 (L ++ uint 10 n)) := by rw [← HM.out, ← List.append_assoc]; exact hw2
      have HB2 : Hid (Wrote w w1 r v v2) := hB.out.trans hb2
      clear hw2 hb2
      go_wp2
      go_end0
      exact ⟨rfl, v2, HW2.out, HB2.out⟩

/-- a number with sign as one without -/
def fold (n : Int) : Nat := if n < 0 then (2 * (-1 - n) + 1).toNat else (2 * n).toNat
theorem fold_lt (n : Int) (h0 : -9223372036854775808 ≤ n) (h1 : n ≤ 9223372036854775807) : fold n < 18446744073709551616 := by
  unfold fold; split <;> omega

theorem wInt_any (w : World) (base r : Nat) (n : Int) (v : Value) (L : List Nat) (h : IsWriter w base r v L) (h0 : -9223372036854775808 ≤ n) (h1 : n ≤ 9223372036854775807) (hl : L.length + 11 ≤ 140737488355328) :
    Calls Tryz.prog 54 #[.pointer (some ⟨r, 0, none⟩), .int .i64 n] w fun e w' => e = .returned (.tuple #[]) ∧ ∃ v', IsWriter w' base r v' (L ++ uint 10 (fold n)) ∧ Wrote w w' r v v' := by
  have HW : Hid (IsWriter w base r v L) := h
  have hfl := fold_lt n h0 h1
  clear h
  go_enter Tryz.func54, Tryz.ntmps54
  by_cases hn : n < 0
  · have hf : ((fold n : Nat) : Int) = (-1 - n) * 2 + 1 := by unfold fold; rw [if_pos hn]; omega
    have HF : Hid (((fold n : Nat) : Int) = (-1 - n) * 2 + 1) := hf
    clear hf
    go_wp2_with fail
    rw [← HF.out]
    refine (wUint_any w base r (fold n) v L HW.out hfl hl).mono ?_
    rintro e w1 ⟨rfl, v2, hw2, hb2⟩
    go_wp2
    exact bodyPost_ret (v := .tuple #[]) (by simp [results, Tryz.results54, go_sem]) rfl ⟨rfl, v2, hw2, hb2⟩
  · have hf : ((fold n : Nat) : Int) = n * 2 := by unfold fold; rw [if_neg hn]; omega
    have HF : Hid (((fold n : Nat) : Int) = n * 2) := hf
    clear hf
    go_wp2_with fail
    rw [← HF.out]
    refine (wUint_any w base r (fold n) v L HW.out hfl hl).mono ?_
    rintro e w1 ⟨rfl, v2, hw2, hb2⟩
    go_wp2
    go_end0
    exact ⟨rfl, v2, hw2, hb2⟩


theorem wOut_any (w : World) (base r : Nat) (v : Value) (L : List Nat) (h : IsWriter w base r v L) (hl : L.length ≤ 140737488355328) :
    Calls Tryz.prog 30 #[.pointer (some ⟨r, 0, none⟩)] w fun e w' => e = .returned (.slice (some ⟨w.heap.size, 0, none⟩) L.length L.length) ∧ RowAt w' w.heap.size L ∧ Below w.heap.size w w' ∧ w'.heap.size = w.heap.size + 1 := by
  obtain ⟨a, c, hv, hb, hn, hlc⟩ := h.2.1.slice
  subst hv
  have hc := h.cell
  have HB : Hid (BytesAt w a L) := hb
  clear h hb hn hlc
  go_enter Tryz.func30, Tryz.ntmps30
  go_wp2_with fail
  refine (fresh_any w a c L.length L rfl HB.out (by omega)).mono ?_
  rintro e w1 ⟨rfl, hr, hb1, hs⟩
  go_wp2
  go_ret
  exact ⟨rfl, hr, hb1, hs⟩

end Go.Proofs.YtcaibgbhebldmaaGreat
