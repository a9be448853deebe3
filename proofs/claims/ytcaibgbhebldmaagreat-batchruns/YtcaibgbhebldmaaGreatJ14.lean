import Derived.Test.YtcaibgbhebldmaaGreatJ13
import Derived.Test.YtcaibgbhebldmaaGreatJ04
import Derived.Test.YtcaibgbhebldmaaGreatJ11
import Derived.Laws.CopyRow
import Derived.Laws.Cover3
/-
  A BATCH's BYTES, THERE.
-/
namespace Go.Proofs.YtcaibgbhebldmaaGreat.Kk
open Go.RowKit Go.Sort

theorem drop_at {b X R : List Nat} {p : Nat} (h : b.drop p = X ++ R) : b.drop (p + X.length) = R := by
  rw [← List.drop_drop, h]; simp
theorem upR_at {b : List Nat} {p n most : Nat} {R : List Nat} (hn : n < 18446744073709551616) (hm : n ≤ most) (h : b.drop p = uint 10 n ++ R) : upR b most p = .ok (n, p + (uint 10 n).length) := by
  unfold upR
  rw [rdUpto_at b p n most R hn hm h]
  rfl
theorem intR_at {b : List Nat} {p : Nat} {z : Int} {R : List Nat} (hz : In64 z) (h : b.drop p = uint 10 (fold z) ++ R) : intR b p = .ok (z, p + (uint 10 (fold z)).length) := by
  have hl := fold_lt z hz.1 hz.2
  unfold intR
  rw [upR_at hl (by omega) h]
  simp only [unfold_fold z hz.1 hz.2]
theorem argsR_at {b R : List Nat} : ∀ (A : List Int) (acc : List Int) (p : Nat), (∀ z ∈ A, In64 z) → b.drop p = argsT A ++ R → argsR b A.length acc p = .ok (acc ++ A, p + (argsT A).length)
  | [], acc, p, _, _ => by simp [argsR, argsT]
  | z :: A, acc, p, hz, h => by
    have e : argsT (z :: A) = uint 10 (fold z) ++ argsT A := by simp [argsT]
    rw [e, List.append_assoc] at h
    have h1 := intR_at (hz z (by simp)) h
    have h2 := argsR_at A (acc ++ [z]) _ (fun x hx => hz x (by simp [hx])) (drop_at h)
    rw [List.length_cons, argsR, h1]
    simp only
    rw [h2, e, List.append_assoc, List.length_append, Nat.add_assoc]
    rfl
theorem argR_at {b R : List Nat} {p : Nat} {A : List Int} (hz : ∀ z ∈ A, In64 z) (hl : A.length ≤ 16) (h : b.drop p = argsN A ++ R) : argR b p = .ok (A, p + (argsN A).length) := by
  have e : argsN A = uint 10 A.length ++ argsT A := rfl
  rw [e, List.append_assoc] at h
  unfold argR
  rw [upR_at (by omega) hl h]
  simp only
  rw [argsR_at A [] _ hz (drop_at h), e, List.length_append, Nat.add_assoc]
  rfl
theorem keysR_at {b R : List Nat} (hfk : ∀ k : K, isKey k = true → In64 k.2 → fromK (keyBytes k) = k) : ∀ (L acc : List K) (p : Nat), (∀ z ∈ L, KIn z) → Rise (acc ++ L) → b.drop p = L.flatMap keyBytes ++ R → keysR b L.length acc p = .ok (acc ++ L, p + L.length * 10)
  | [], acc, p, _, _, _ => by simp [keysR]
  | k :: L, acc, p, hz, hr, h => by
    rw [List.flatMap_cons, List.append_assoc] at h
    have hk : isKey k = true := hr.1 k (by simp)
    have hlen : p + 10 ≤ b.length := by
      have := congrArg List.length h
      simp only [List.length_drop, List.length_append, keyBytes_length] at this
      omega
    have h10 : (b.drop p).take 10 = keyBytes k := by rw [h, ← keyBytes_length k]; simp
    have hkr : keyR b p = .ok (k, p + 10) := by
      unfold keyR
      rw [if_pos hlen, h10, hfk k hk (hz k (by simp)).2]
    have hlt : ¬ (acc ≠ [] ∧ lt (kd acc (acc.length - 1)) k = false) := fun hc => by
      have hne : 0 < acc.length := List.length_pos_iff.2 hc.1
      have hp := (rise_append.1 hr).2.2 (kd acc (acc.length - 1)) (kd_mem (by omega)) k (by simp)
      rw [hp] at hc; exact absurd hc.2 (by simp)
    have hr2 : Rise ((acc ++ [k]) ++ L) := by rw [List.append_assoc]; exact hr
    have h2 := keysR_at hfk L (acc ++ [k]) (p + 10) (fun x hx => hz x (by simp [hx])) hr2 (by have := drop_at h; rwa [keyBytes_length] at this)
    rw [List.length_cons, keysR, hkr]
    simp only
    rw [if_neg hlt, h2, List.append_assoc]
    have : p + 10 + L.length * 10 = p + (L.length + 1) * 10 := by omega
    rw [this]
    rfl
theorem setR_at {b R : List Nat} (hfk : ∀ k : K, isKey k = true → In64 k.2 → fromK (keyBytes k) = k) {p : Nat} {L : List K} (hz : ∀ z ∈ L, KIn z) (hr : Rise L) (hl : L.length ≤ 16) (h : b.drop p = setN L ++ R) : setR b 16 p = .ok (L, p + (setN L).length) := by
  have e : setN L = uint 10 L.length ++ L.flatMap keyBytes := rfl
  rw [e, List.append_assoc] at h
  unfold setR
  rw [upR_at (by omega) hl h]
  simp only
  rw [keysR_at hfk L [] _ hz hr (drop_at h), e, List.length_append, keysT_length, Nat.add_assoc]
  rfl
structure TIn (t : Tp) : Prop where
  a : ∀ z ∈ t.args, In64 z
  r : ∀ k ∈ t.reads, KIn k
  w : ∀ k ∈ t.writes, KIn k
theorem txR_at {b R : List Nat} (hfk : ∀ k : K, isKey k = true → In64 k.2 → fromK (keyBytes k) = k) {p : Nat} {t : Tp} (hw : WF t) (hi : TIn t) (h : b.drop p = txN t ++ R) : txR b p = .ok (t, p + (txN t).length) := by
  have e : txN t = uint 10 t.proc.toNat ++ (argsN t.args ++ (setN t.reads ++ setN t.writes)) := by simp [txN]
  have p0 := hw.p0
  have p1 := hw.p1
  rw [e] at h
  simp only [List.append_assoc] at h
  have h1 := upR_at (most := 63) (by omega) (by omega) h
  have d1 := drop_at h
  have h2 := argR_at hi.a hw.a d1
  have d2 := drop_at d1
  have h3 := setR_at hfk hi.r hw.rr hw.r d2
  have d3 := drop_at d2
  have h4 := setR_at hfk hi.w hw.rw hw.w d3
  unfold txR
  rw [h1]; simp only
  rw [h2]; simp only
  rw [h3]; simp only
  rw [h4]; simp only
  rw [e]
  simp only [List.length_append, Nat.add_assoc]
  congr 2
  obtain ⟨proc, args, reads, writes⟩ := t
  simp only [Tp.mk.injEq, and_true] at p0 ⊢
  omega
theorem txsR_at {b R : List Nat} (hfk : ∀ k : K, isKey k = true → In64 k.2 → fromK (keyBytes k) = k) : ∀ (Ts acc : List Tp) (p : Nat), (∀ t ∈ Ts, WF t ∧ TIn t) → b.drop p = Ts.flatMap txN ++ R → txsR b Ts.length acc p = .ok (acc ++ Ts, p + (Ts.flatMap txN).length)
  | [], acc, p, _, _ => by simp [txsR]
  | t :: Ts, acc, p, hz, h => by
    rw [List.flatMap_cons, List.append_assoc] at h
    have h1 := txR_at hfk (hz t (by simp)).1 (hz t (by simp)).2 h
    have h2 := txsR_at hfk Ts (acc ++ [t]) _ (fun x hx => hz x (by simp [hx])) (drop_at h)
    rw [List.length_cons, txsR, h1]
    simp only
    rw [h2, List.append_assoc, List.flatMap_cons, List.length_append, Nat.add_assoc]
    rfl
/-- the reading of a batch's bytes, whatever follows -/
theorem batR_at {R : List Nat} (hfk : ∀ k : K, isKey k = true → In64 k.2 → fromK (keyBytes k) = k) {Ts : List Tp} (hl : Ts.length ≤ 64) (hz : ∀ t ∈ Ts, WF t ∧ TIn t) : batR (batN Ts ++ R) 0 = .ok (Ts, (batN Ts).length) := by
  have e : batN Ts = uint 10 Ts.length ++ Ts.flatMap txN := rfl
  have h : (batN Ts ++ R).drop 0 = uint 10 Ts.length ++ (Ts.flatMap txN ++ R) := by rw [e]; simp
  unfold batR
  rw [upR_at (by omega) hl h]
  simp only
  rw [txsR_at hfk Ts [] _ hz (drop_at h), e, List.length_append, Nat.zero_add]
  rfl
theorem decR_there (hfk : ∀ k : K, isKey k = true → In64 k.2 → fromK (keyBytes k) = k) {Ts : List Tp} (hl : Ts.length ≤ 64) (hz : ∀ t ∈ Ts, WF t ∧ TIn t) : decR (batN Ts) = .ok Ts := by
  have h := batR_at (R := []) hfk hl hz
  rw [List.append_nil] at h
  unfold decR
  rw [h]
  simp
theorem decR_more (hfk : ∀ k : K, isKey k = true → In64 k.2 → fromK (keyBytes k) = k) {Ts : List Tp} (hl : Ts.length ≤ 64) (hz : ∀ t ∈ Ts, WF t ∧ TIn t) {R : List Nat} (hR : R ≠ []) : decR (batN Ts ++ R) = .error ((batN Ts).length, 11) := by
  unfold decR
  rw [batR_at hfk hl hz]
  have : 0 < R.length := List.length_pos_iff.2 hR
  simp only
  rw [if_neg (by rw [List.length_append]; omega)]
end Go.Proofs.YtcaibgbhebldmaaGreat.Kk
/-
  KEYS' BYTES, THERE AND BACK.
-/
namespace Go.Proofs.YtcaibgbhebldmaaGreat.Kk
open Go.RowKit Go.Sort

theorem num_from (B : List Nat) (u : Nat) : B.foldl (fun u c => u * 256 + c) u = u * 256 ^ B.length + num B := by
  induction B generalizing u with
  | nil => simp [num]
  | cons b B ih =>
    unfold num
    rw [List.foldl_cons, List.foldl_cons, ih, ih (0 * 256 + b), List.length_cons, Nat.pow_succ, Nat.add_mul, Nat.zero_mul, Nat.zero_add, Nat.mul_assoc, Nat.mul_comm 256, Nat.add_assoc]
theorem num_append (A B : List Nat) : num (A ++ B) = num A * 256 ^ B.length + num B := by
  rw [← num_from B (num A)]; unfold num; rw [List.foldl_append]
theorem num_cons (x : Nat) (X : List Nat) : num (x :: X) = x * 256 ^ X.length + num X := by
  have := num_append [x] X
  simpa [num] using this
theorem num_diff (P X Y : List Nat) (x y : Nat) (hl : X.length = Y.length) (hX : ∀ z ∈ X, z < 256) (hY : ∀ z ∈ Y, z < 256) (hne : x ≠ y) : (num (P ++ x :: X) < num (P ++ y :: Y)) ↔ x < y := by
  rw [num_append, num_append, num_cons, num_cons, List.length_cons, List.length_cons, hl]
  have h1 := num_lt X hX
  have h2 := num_lt Y hY
  rw [hl] at h1
  generalize 256 ^ Y.length = m at *
  generalize num P * 256 ^ (Y.length + 1) = p at *
  constructor
  · intro h
    rcases Nat.lt_or_ge x y with h3 | h3
    · exact h3
    · have : y + 1 ≤ x := by omega
      have := Nat.mul_le_mul_right m this
      rw [Nat.add_mul] at this
      omega
  · intro h
    have : x + 1 ≤ y := by omega
    have := Nat.mul_le_mul_right m this
    rw [Nat.add_mul] at this
    omega
theorem split_at (xs : List Nat) (k : Nat) (h : k < xs.length) : xs = xs.take k ++ xs.getD k 0 :: xs.drop (k + 1) := by
  rw [List.getD_eq_getElem?_getD, List.getElem?_eq_getElem h]
  simp
theorem below_at (xs ys : List Nat) (k : Nat) (hl : xs.length = ys.length) (hk : k < xs.length) (hx : ∀ z ∈ xs, z < 256) (hy : ∀ z ∈ ys, z < 256) (hp : xs.take k = ys.take k) (hne : xs.getD k 0 ≠ ys.getD k 0) :
    decide (num xs < num ys) = decide (xs.getD k 0 < ys.getD k 0) := by
  have h := num_diff (xs.take k) (xs.drop (k + 1)) (ys.drop (k + 1)) (xs.getD k 0) (ys.getD k 0) (by simp; omega) (fun z hz => hx z (List.mem_of_mem_drop hz)) (fun z hz => hy z (List.mem_of_mem_drop hz)) hne
  have e1 := split_at xs k hk
  have e2 := split_at ys k (by omega)
  rw [← hp] at e2
  rw [← e1, ← e2] at h
  simp [h]

/-- a key as one number -/
theorem num_keyBytes {k : K} (h2 : In64 k.2) : num (keyBytes k) = k.1.toNat * 18446744073709551616 + turn k.2 := by
  unfold keyBytes
  rw [num_append, be_length, num_be 8 _ (turn_lt h2)]
  have : num [k.1.toNat / 256, k.1.toNat % 256] = k.1.toNat := by simp [num]; omega
  rw [this]
theorem num_lt_key {a b : K} (ha : isKey a = true) (hb : isKey b = true) (ia : In64 a.2) (ib : In64 b.2) : decide (num (keyBytes a) < num (keyBytes b)) = lt a b := by
  rw [num_keyBytes ia, num_keyBytes ib]
  have t1 := turn_lt ia
  have t2 := turn_lt ib
  have u1 := turn_int ia
  have u2 := turn_int ib
  simp only [isKey, Bool.and_eq_true, decide_eq_true_eq] at ha hb
  rw [Bool.eq_iff_iff, lt_iff, decide_eq_true_eq]
  omega
theorem from_keyBytes {k : K} (hk : isKey k = true) (h2 : In64 k.2) : fromK (keyBytes k) = k ∧ fromE (keyBytes k) = 0 := by
  have hl := keyBytes_length k
  refine ⟨?_, by unfold fromE; rw [if_neg (by omega), if_neg (by omega)]⟩
  unfold fromK fromB
  rw [if_pos hl]
  have e : (keyBytes k).drop 2 = be 8 (turn k.2) := rfl
  rw [e, num_be 8 _ (turn_lt h2), turn_int h2]
  have e0 : (keyBytes k).getD 0 0 = k.1.toNat / 256 := rfl
  have e1 : (keyBytes k).getD 1 0 = k.1.toNat % 256 := rfl
  rw [e0, e1]
  simp only [isKey, Bool.and_eq_true, decide_eq_true_eq] at hk
  obtain ⟨k1, k2⟩ := k
  simp only [Prod.mk.injEq] at *
  omega
theorem isKey_iff' (k : K) : isKey k = true ↔ 0 ≤ k.1 ∧ k.1 ≤ 65535 := by simp [isKey]
theorem keyBytes_from {zs : List Nat} (hl : zs.length = 10) (hz : ∀ z ∈ zs, z < 256) : isKey (fromB zs) = true ∧ In64 (fromB zs).2 ∧ keyBytes (fromB zs) = zs := by
  have hu := num10_lt zs hz hl
  have h0 := getD_lt hz 0
  have h1 := getD_lt hz 1
  refine ⟨?_, ?_, ?_⟩
  · rw [isKey_iff']; simp only [fromB]; omega
  · simp only [fromB, In64]; omega
  · unfold keyBytes
    have e : turn (fromB zs).2 = num (zs.drop 2) := by simp only [fromB, turn]; omega
    have hb := be_num (zs.drop 2) (fun z h => hz z (List.mem_of_mem_drop h))
    rw [show (zs.drop 2).length = 8 by simp; omega] at hb
    rw [e, hb]
    have t : (fromB zs).1.toNat = zs.getD 0 0 * 256 + zs.getD 1 0 := by simp only [fromB]; omega
    rw [t, show (zs.getD 0 0 * 256 + zs.getD 1 0) / 256 = zs.getD 0 0 by omega, show (zs.getD 0 0 * 256 + zs.getD 1 0) % 256 = zs.getD 1 0 by omega]
    obtain ⟨a, b, c, d, f, g, i, j, k, l, rfl⟩ := list10 hl
    rfl
theorem keyBytes_inj {a b : K} (ha : isKey a = true) (hb : isKey b = true) (ia : In64 a.2) (ib : In64 b.2) : decide (keyBytes a = keyBytes b) = decide (a = b) := by
  by_cases h : a = b
  · simp [h]
  · have : keyBytes a ≠ keyBytes b := fun e => h (by
      have h1 := (from_keyBytes ha ia).1
      rw [e, (from_keyBytes hb ib).1] at h1
      exact h1.symm)
    simp [h, this]

end Go.Proofs.YtcaibgbhebldmaaGreat.Kk
/-
  ROWS OF NUMBERS, KEYS AND TRANSACTIONS THAT A CALL HAS MADE.
-/
namespace Go.Proofs.YtcaibgbhebldmaaGreat.Kk
open Go.RowKit Go.Sort

/-- what lies from g up to (not with) h may turn; all else stays -/
structure Mid (g h : Nat) (W W' : World) : Prop where
  os : W'.os = W.os
  tape : W'.tape = W.tape
  output : W'.output = W.output
  size : W.heap.size ≤ W'.heap.size
  block : ∀ k, k < W.heap.size → (k < g ∨ h ≤ k) → W'.heap[k]? = W.heap[k]?
theorem Mid.refl (g h : Nat) (W : World) : Mid g h W W := ⟨rfl, rfl, rfl, Nat.le_refl _, fun _ _ _ => rfl⟩
theorem Mid.trans {g h : Nat} {W W1 W2 : World} (a : Mid g h W W1) (b : Mid g h W1 W2) : Mid g h W W2 :=
  ⟨b.os.trans a.os, b.tape.trans a.tape, b.output.trans a.output, Nat.le_trans a.size b.size, fun k hk hg => (b.block k (Nat.lt_of_lt_of_le hk a.size) hg).trans (a.block k hk hg)⟩
theorem Mid.wide {g h g' h' : Nat} {W W1 : World} (a : Mid g h W W1) (h1 : g' ≤ g) (h2 : h ≤ h') : Mid g' h' W W1 :=
  ⟨a.os, a.tape, a.output, a.size, fun k hk hg => a.block k hk (by omega)⟩
theorem Mid.of_below {g h : Nat} {W W1 : World} (a : Below W.heap.size W W1) : Mid g h W W1 := ⟨a.os, a.tape, a.output, a.size, fun k hk _ => a.block k hk⟩
theorem Mid.below {g h : Nat} {W W1 : World} (a : Mid g h W W1) (hg : g ≤ W.heap.size) : Below g W W1 := ⟨a.os, a.tape, a.output, a.size, fun k hk => a.block k (by omega) (.inl hk)⟩
theorem Mid.set {g h : Nat} {W W1 : World} (a : Mid g h W W1) (G i : Nat) (v : Value) (h1 : g ≤ G) (h2 : G < h) : Mid g h W (W1.setCell ⟨G, i, none⟩ v) :=
  ⟨a.os, a.tape, a.output, by simpa using a.size, fun k hk hg => by rw [heap_setCell_other W1 ⟨G, i, none⟩ k v (by simp; omega)]; exact a.block k hk hg⟩
theorem Mid.drew {g h : Nat} {W W1 : World} (a : Mid g h W W1) : Mid g h W W1.drew := ⟨a.os, a.tape, a.output, a.size, a.block⟩
theorem Mid.setRow {g h : Nat} {W W1 : World} (a : Mid g h W W1) (G : Nat) (c : Array Value) (h1 : g ≤ G) (h2 : G < h) : Mid g h W (W1.setRow G c) :=
  ⟨a.os, a.tape, a.output, by simpa [World.setRow] using a.size, fun k hk hg => by
    have : (W1.setRow G c).heap[k]? = W1.heap[k]? := by simp [World.setRow, Array.getElem?_modify, show G ≠ k by omega]
    rw [this]; exact a.block k hk hg⟩

/-- BLOCK g IS A ROW OF int64 -/
def R64 (w : World) (g : Nat) (L : List Int) : Prop := w.heap[g]? = some (.cells (cellsI L) 2 (0, 0))
theorem R64.cell {w : World} {g : Nat} {L : List Int} (h : R64 w g L) (j : Nat) (hj : j < L.length) : w.cell? ⟨g, j, none⟩ = some (.int .i64 (ad L j)) := by
  have := get_cellsI L j hj
  simp [World.cell?, show w.heap[g]? = _ from h, this, ad]
theorem R64.frozen {w : World} {g : Nat} {L : List Int} (h : R64 w g L) (j : Nat) : w.frozen? ⟨g, j, none⟩ = false := frozen_of_row w g j _ _ h
theorem R64.set {w : World} {g : Nat} {L : List Int} (h : R64 w g L) (i : Nat) (z : Int) : R64 (w.setCell ⟨g, i, none⟩ (.int .i64 z)) g (L.set i z) := by
  have := heap_setCell_same w g i _ _ (.int .i64 z) h
  rw [set_cellsI] at this
  exact this
theorem R64.lt {w : World} {g : Nat} {L : List Int} (h : R64 w g L) : g < w.heap.size := (Array.getElem?_eq_some_iff.1 h).1
theorem R64.same {w w1 : World} {g : Nat} {L : List Int} (h : R64 w g L) (hb : w1.heap[g]? = w.heap[g]?) : R64 w1 g L := hb.trans h
theorem R64.setRow {w : World} {g : Nat} {L : List Int} (h : R64 w g L) (M : List Int) : R64 (w.setRow g (cellsI M)) g M := by
  unfold R64 at *
  simp [World.setRow, Array.getElem?_modify, h]
theorem R64.nums {w : World} {g : Nat} {L M : List Int} (h : R64 w g (L ++ M)) : NumsAt w (some ⟨g, 0, none⟩) L := by
  refine .inr ⟨g, 0, rfl, fun j u hu => ?_⟩
  have hj : j < L.length := by have := (List.getElem?_eq_some_iff.1 hu).1; simpa using this
  rw [List.getElem?_map, ad_get hj] at hu
  simp only [Option.map_some, Option.some.injEq] at hu
  subst hu
  rw [Nat.zero_add, h.cell j (by simp; omega)]
  simp [ad, List.getD_eq_getElem?_getD, List.getElem?_append_left hj]
theorem info64 : (Tryz.prog.info? 2).map (fun i => (i.zero, i.size, i.bytes)) = some (some (.int .i64 0), 1, 8) := by kernel_rfl
/-- make([]int64, n) -/
theorem make_nums (c : Nat) (C : Int) (hC : C = c) (hc : c * 8 ≤ 281474976710656) (u : World) : (Instr.makeSlice 43 (.int .i64 C) (.int .i64 C)).run Tryz.prog u =
    .ok (.slice (some ⟨u.heap.size, 0, none⟩) c c) (u.alloc (.cells (cellsI (List.replicate c 0)) 2)) := by
  obtain ⟨i0, hi, hz0, hz1, hz2⟩ := info_parts info64
  subst hC
  have h := run_make (P := Tryz.prog) u 43 2 i0 (.int .i64 0) Tryz.underlying43 hi hz0 .i64 .i64 (c : Int) (c : Int) (by omega) (Int.le_refl _) (by rw [hz2]; omega) (by omega)
  rw [← made_cellsI]
  simpa [hz1, Value.cells] using h
theorem run_copy_nums (w : World) (ty : TypeId) (g dLen dCap : Nat) (a : Addr) (n c : Nat) (L Z : List Int) (hn : n = L.length) (hz : dLen = Z.length) (hle : n ≤ dLen)
    (hg : R64 w g Z) (hsrc : NumsAt w (some a) L) (M : List Int) (hM : L ++ Z.drop n = M) :
    (Builtin.copy_ #[43, 43] ty #[.slice (some ⟨g, 0, none⟩) dLen dCap, .slice (some a) n c]).run Tryz.prog w = .ok (goInt n) (w.setRow g (cellsI M)) := by
  subst hM
  have hl := run_loadCells_list (P := Tryz.prog) w a (L.map iv) (by
    intro j u hu
    rcases hsrc with h0 | ⟨b, off, e, hc⟩
    · simp at h0; subst h0; simp at hu
    · cases e; rw [addr_add]; exact hc j u hu)
  have hst := run_storeCells_at Tryz.prog g 0 2 (L.map iv) 0 (cellsI Z) w hg (by simp [size_cellsI]; omega) (oneI L)
  obtain ⟨i0, hi, hz0, hz1, hz2⟩ := info_parts info64
  have e1 : (L.map iv).length = n := by simp [hn]
  have e2 : Nat.min n dLen = n := Nat.min_eq_left hle
  rw [e1] at hl hst
  simp only [Nat.add_zero, Nat.zero_add, List.take_zero, List.nil_append] at hst
  have e3 : (List.map iv L ++ List.drop n (cellsI Z).toList).toArray = cellsI (L ++ Z.drop n) := by simp [cellsI, List.map_drop]
  rw [e3] at hst
  simp [Builtin.copy_, run_underlying Tryz.underlying43, Builtin.lenOf, Builtin.firstCells, sizeOf, typeInfo, hi, hz1, e2, hl, hst]
theorem eqNil64 (ao : Option Addr) (n c : Nat) (w : World) : (binOp .eql 43 (.slice ao n c) (.slice none 0 0)).run Tryz.prog w = .ok (.bool ao.isNone) w := by
  simp only [binOp]
  simp [run_equal_slice_nil w 43 2 ao n c Tryz.underlying43]
theorem eqNilK (ao : Option Addr) (n c : Nat) (w : World) : (binOp .eql 44 (.slice ao n c) (.slice none 0 0)).run Tryz.prog w = .ok (.bool ao.isNone) w := by
  simp only [binOp]
  simp [run_equal_slice_nil w 44 89 ao n c Tryz.underlying44]
theorem eqNilT (ao : Option Addr) (n c : Nat) (w : World) : (binOp .eql 31 (.slice ao n c) (.slice none 0 0)).run Tryz.prog w = .ok (.bool ao.isNone) w := by
  simp only [binOp]
  simp [run_equal_slice_nil w 31 46 ao n c Tryz.underlying31]

/-- BLOCK g IS A ROW OF KEYS -/
def RK (W : World) (g : Nat) (M : List K) : Prop := W.heap[g]? = some (.cells (cks M).toArray 89 (0, 0))
theorem RK.lt {W : World} {g : Nat} {M : List K} (h : RK W g M) : g < W.heap.size := (Array.getElem?_eq_some_iff.1 h).1
theorem RK.same {W W1 : World} {g : Nat} {M : List K} (h : RK W g M) (hb : W1.heap[g]? = W.heap[g]?) : RK W1 g M := hb.trans h
theorem RK.frozen {W : World} {g : Nat} {M : List K} (h : RK W g M) (j : Nat) : W.frozen? ⟨g, j, none⟩ = false := frozen_of_row W g j _ _ h
theorem RK.keys {W : World} {g : Nat} {L R : List K} (h : RK W g (L ++ R)) : KeysAt W (some ⟨g, 0, none⟩) L := by
  refine .inr ⟨g, 0, rfl, fun j u hu => ?_⟩
  have hj := (List.getElem?_eq_some_iff.1 hu).1
  simp only [World.cell?, show W.heap[g]? = _ from h, Nat.zero_add, cks_append]
  simpa [List.getElem?_append_left hj] using hu
theorem RK.cell {W : World} {g : Nat} {M : List K} (h : RK W g M) (j : Nat) (hj : j < M.length) : W.cell? ⟨g, j * 2, none⟩ = some (.int .i64 (kd M j).1) ∧ W.cell? ⟨g, j * 2 + 1, none⟩ = some (.int .i64 (kd M j).2) := by
  have h2 : RK W g (M ++ []) := by rw [List.append_nil]; exact h
  obtain ⟨b, off, e, h1, h2⟩ := h2.keys.get j hj
  cases e
  simp only [Nat.zero_add] at h1 h2
  exact ⟨h1, h2⟩
theorem RK.set {W : World} {g : Nat} {M : List K} (h : RK W g M) (i : Nat) (x y : Int) (hi : i < M.length) : RK ((W.setCell ⟨g, i * 2, none⟩ (.int .i64 x)).setCell ⟨g, i * 2 + 1, none⟩ (.int .i64 y)) g (M.set i (x, y)) := by
  have h1 := heap_setCell_same W g (i * 2) _ _ (.int .i64 x) h
  have h2 := heap_setCell_same _ g (i * 2 + 1) _ _ (.int .i64 y) h1
  have e : ∀ (M : List K) (i : Nat), i < M.length → ((cks M).set (i * 2) (.int .i64 x)).set (i * 2 + 1) (.int .i64 y) = cks (M.set i (x, y)) := by
    intro M
    induction M with
    | nil => intro i h; simp at h
    | cons k M ih =>
      intro i h
      cases i with
      | zero => simp [cks]
      | succ i =>
        have := ih i (by simpa using h)
        rw [show (i + 1) * 2 = i * 2 + 1 + 1 by omega, show i * 2 + 1 + 1 + 1 = (i * 2 + 1) + 1 + 1 by omega]
        simp only [cks, List.set_cons_succ, this]
  unfold RK
  rw [h2, ← e M i hi]
  simp
theorem RK.setRow {W : World} {g : Nat} {M : List K} (h : RK W g M) (L : List K) : RK (W.setRow g (cks L).toArray) g L := by
  unfold RK at *
  simp [World.setRow, Array.getElem?_modify, h]

/-- BLOCK g IS A ROW OF TRANSACTIONS -/
def RT (W : World) (g : Nat) (Qs : List Bx) : Prop := W.heap[g]? = some (.cells (bxcs Qs).toArray 46 (0, 0))
theorem RT.lt {W : World} {g : Nat} {M : List Bx} (h : RT W g M) : g < W.heap.size := (Array.getElem?_eq_some_iff.1 h).1
theorem RT.same {W W1 : World} {g : Nat} {M : List Bx} (h : RT W g M) (hb : W1.heap[g]? = W.heap[g]?) : RT W1 g M := hb.trans h
theorem RT.frozen {W : World} {g : Nat} {M : List Bx} (h : RT W g M) (j : Nat) : W.frozen? ⟨g, j, none⟩ = false := frozen_of_row W g j _ _ h
theorem RT.txs {W : World} {g : Nat} {L R : List Bx} (h : RT W g (L ++ R)) : TxsAt W (some ⟨g, 0, none⟩) L := by
  refine .inr ⟨g, 0, rfl, fun j u hu => ?_⟩
  have hj := (List.getElem?_eq_some_iff.1 hu).1
  simp only [World.cell?, show W.heap[g]? = _ from h, Nat.zero_add, bxcs_append]
  simpa [List.getElem?_append_left hj] using hu
theorem RT.txs0 {W : World} {g : Nat} {L : List Bx} (h : RT W g L) : TxsAt W (some ⟨g, 0, none⟩) L := by
  have h2 : RT W g (L ++ []) := by rw [List.append_nil]; exact h
  exact h2.txs
theorem RT.cell {W : World} {g : Nat} {Bs : List Bx} (h : RT W g Bs) (j : Nat) (hj : j < Bs.length) : W.cell? ⟨g, j * 4, none⟩ = some (.int .i64 (bd Bs j).t.proc) ∧
    W.cell? ⟨g, j * 4 + 1, none⟩ = some (.slice (bd Bs j).aA (bd Bs j).t.args.length (bd Bs j).cA) ∧ W.cell? ⟨g, j * 4 + 2, none⟩ = some (.slice (bd Bs j).aR (bd Bs j).t.reads.length (bd Bs j).cR) ∧ W.cell? ⟨g, j * 4 + 3, none⟩ = some (.slice (bd Bs j).aW (bd Bs j).t.writes.length (bd Bs j).cW) := by
  obtain ⟨b, off, e, h⟩ := h.txs0.get j hj
  cases e
  simpa using h
theorem RT.put {W : World} {g k : Nat} {Qs : List Bx} (h : RT W g Qs) (hk : k < Qs.length) (y : Bx) :
    RT ((((W.setCell ⟨g, k * 4, none⟩ (.int .i64 y.t.proc)).setCell ⟨g, k * 4 + 1, none⟩ (.slice y.aA y.t.args.length y.cA)).setCell ⟨g, k * 4 + 2, none⟩ (.slice y.aR y.t.reads.length y.cR)).setCell ⟨g, k * 4 + 3, none⟩ (.slice y.aW y.t.writes.length y.cW)) g (Qs.set k y) := by
  have h1 := heap_setCell_same W g (k * 4) _ _ (.int .i64 y.t.proc) h
  have h2 := heap_setCell_same _ g (k * 4 + 1) _ _ (.slice y.aA y.t.args.length y.cA) h1
  have h3 := heap_setCell_same _ g (k * 4 + 2) _ _ (.slice y.aR y.t.reads.length y.cR) h2
  have h4 := heap_setCell_same _ g (k * 4 + 3) _ _ (.slice y.aW y.t.writes.length y.cW) h3
  unfold RT
  rw [h4, ← bxcs_set Qs k y hk]
  simp
theorem infoT : (Tryz.prog.info? 46).map (fun i => (i.zero, i.size, i.bytes)) = some (some (.agg #[.int .i64 0, .slice none 0 0, .slice none 0 0, .slice none 0 0]), 4, 80) := by kernel_rfl
theorem bxcs_zero (c : Nat) : madeCells (Value.agg #[.int .i64 0, .slice none 0 0, .slice none 0 0, .slice none 0 0]).cells (c * 4) = (bxcs (List.replicate c bxD)).toArray := by
  apply Array.ext'
  apply List.ext_getElem?
  intro j
  by_cases hj : j < c * 4
  · obtain ⟨q, i, rfl, hi⟩ : ∃ q i, j = q * 4 + i ∧ i < 4 := ⟨j / 4, j % 4, by omega, Nat.mod_lt _ (by omega)⟩
    have hq : q < c := by omega
    have e : bd (List.replicate c bxD) q = bxD := by simp [bd, List.getD_eq_getElem?_getD, hq]
    rw [show (bxcs (List.replicate c bxD)).toArray.toList = bxcs (List.replicate c bxD) from rfl, bxcs_at _ q i (by simpa using hq) hi, e]
    have hm : (q * 4 + i) % 4 = i := by omega
    obtain rfl | rfl | rfl | rfl : i = 0 ∨ i = 1 ∨ i = 2 ∨ i = 3 := by omega
    · simp only [Nat.add_zero] at hj hm ⊢
      simp [madeCells, Value.cells, hj, hm, bxc, bxD]
    all_goals simp [madeCells, Value.cells, hj, hm, bxc, bxD]
  · rw [show (bxcs (List.replicate c bxD)).toArray.toList = bxcs (List.replicate c bxD) from rfl, List.getElem?_eq_none (by simp [madeCells]; omega), List.getElem?_eq_none (by rw [bxcs_length]; simp; omega)]
theorem make_txs (c : Nat) (C : Int) (hC : C = c) (hc : c * 80 ≤ 281474976710656) (u : World) : (Instr.makeSlice 31 (.int .i64 C) (.int .i64 C)).run Tryz.prog u =
    .ok (.slice (some ⟨u.heap.size, 0, none⟩) c c) (u.alloc (.cells (bxcs (List.replicate c bxD)).toArray 46)) := by
  subst hC
  obtain ⟨i0, hi, hz0, hz1, hz2⟩ := info_parts infoT
  have h := run_make (P := Tryz.prog) u 31 46 i0 (.agg #[.int .i64 0, .slice none 0 0, .slice none 0 0, .slice none 0 0]) Tryz.underlying31 hi hz0 .i64 .i64 (c : Int) (c : Int) (by omega) (Int.le_refl _) (by rw [hz2]; omega) (by omega)
  rw [hz1, Int.toNat_natCast, bxcs_zero] at h
  exact h


theorem cks_zero : ∀ c : Nat, cks (List.replicate c (0, 0)) = List.replicate (c * 2) (.int .i64 0)
  | 0 => rfl
  | c + 1 => by
    rw [List.replicate_succ, show (c + 1) * 2 = c * 2 + 1 + 1 by omega, List.replicate_succ, List.replicate_succ]
    simp only [cks, cks_zero c]
theorem toList_madeCells_two (z : Value) (n : Nat) : (madeCells #[z, z] n).toList = List.replicate n z := by
  apply List.ext_getElem?
  intro j
  by_cases hj : j < n
  · rcases Nat.mod_two_eq_zero_or_one j with h | h <;> simp [madeCells, hj, h]
  · simp [madeCells, hj]
theorem make_keys (c : Nat) (C : Int) (hC : C = c) (hc : c * 16 ≤ 281474976710656) (u : World) : (Instr.makeSlice 44 (.int .i64 C) (.int .i64 C)).run Tryz.prog u =
    .ok (.slice (some ⟨u.heap.size, 0, none⟩) c c) (u.alloc (.cells (cks (List.replicate c (0, 0))).toArray 89)) := by
  subst hC
  obtain ⟨i0, hi, hz0, hz1, hz2⟩ := info_parts infoK
  have h := run_make (P := Tryz.prog) u 44 89 i0 (.agg #[.int .i64 0, .int .i64 0]) Tryz.underlying44 hi hz0 .i64 .i64 (c : Int) (c : Int) (by omega) (Int.le_refl _) (by rw [hz2]; omega) (by omega)
  have e : madeCells (Value.agg #[.int .i64 0, .int .i64 0]).cells (c * 2) = (cks (List.replicate c (0, 0))).toArray := by
    apply Array.ext'
    rw [cks_zero]
    exact toList_madeCells_two _ _
  rw [hz1, Int.toNat_natCast, e] at h
  exact h
theorem cks_drop : ∀ (n : Nat) (Z : List K), (cks Z).drop (n * 2) = cks (Z.drop n)
  | 0, Z => by simp
  | n + 1, [] => by simp [cks]
  | n + 1, z :: Z => by
    rw [show (n + 1) * 2 = n * 2 + 1 + 1 by omega]
    simp only [cks, List.drop_succ_cons, cks_drop n Z]
theorem run_copy_keys (w : World) (ty : TypeId) (g dLen dCap : Nat) (a : Addr) (n c : Nat) (L Z : List K) (hn : n = L.length) (hz : dLen = Z.length) (hle : n ≤ dLen)
    (hg : w.heap[g]? = some (.cells (cks Z).toArray 89 (0, 0))) (hsrc : KeysAt w (some a) L) (M : List K) (hM : L ++ Z.drop n = M) :
    (Builtin.copy_ #[44, 44] ty #[.slice (some ⟨g, 0, none⟩) dLen dCap, .slice (some a) n c]).run Tryz.prog w = .ok (goInt n) (w.setRow g (cks M).toArray) := by
  subst hM
  have hl := run_loadCells_list (P := Tryz.prog) w a (cks L) (by
    intro j u hu
    rcases hsrc with h0 | ⟨b, off, e, hc⟩
    · subst h0; simp [cks] at hu
    · cases e; rw [addr_add]; exact hc j u hu)
  have hst := run_storeCells_at Tryz.prog g 0 89 (cks L) 0 (cks Z).toArray w hg (by simp [cks_length]; omega) (cks_one L)
  obtain ⟨i0, hi, hz0, hz1, hz2⟩ := info_parts infoK
  have e1 : (cks L).length = n * 2 := by rw [cks_length, hn]
  have e2 : Nat.min n dLen = n := Nat.min_eq_left hle
  rw [e1] at hl hst
  simp only [Nat.add_zero, Nat.zero_add, List.take_zero, List.nil_append, cks_drop, ← cks_append] at hst
  simp [Builtin.copy_, run_underlying Tryz.underlying44, Builtin.lenOf, Builtin.firstCells, sizeOf, typeInfo, hi, hz1, e2, hl, hst]

end Go.Proofs.YtcaibgbhebldmaaGreat.Kk
