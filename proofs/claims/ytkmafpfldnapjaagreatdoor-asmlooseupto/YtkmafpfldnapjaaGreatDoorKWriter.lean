import Derived.Test.YtkmafpfldnapjaaGreatDoorKLProc
import Derived.Test.YtkmafpfldnapjaaGreatDoorKAAssem
import Derived.Test.YtkmafpfldnapjaaGreatDoorCrc
/-
  THE WALKS OF codec.Writer's METHODS.
-/
namespace Go.Proofs.YtkmafpfldnapjaaGreatDoor
open Go.RowKit

/-- BLOCK r IS A Writer OF THE CALL's OWN THAT HAS THE BYTES L. -/
def IsWriter (w : World) (base r : Nat) (v : Value) (L : List Nat) : Prop := w.heap[r]? = some (.cells #[v] 145 (0, 0)) ∧ OwnB w base v L ∧ base ≤ r

theorem IsWriter.cell {w : World} {base r : Nat} {v : Value} {L : List Nat} (h : IsWriter w base r v L) : w.cell? ⟨r, 0, none⟩ = some v := by
  simp [World.cell?, h.1]
theorem IsWriter.frozen {w : World} {base r : Nat} {v : Value} {L : List Nat} (h : IsWriter w base r v L) : w.frozen? ⟨r, 0, none⟩ = false := frozen_of_row w r 0 _ _ h.1
theorem IsWriter.lt {w : World} {base r : Nat} {v : Value} {L : List Nat} (h : IsWriter w base r v L) : r < w.heap.size := (Array.getElem?_eq_some_iff.1 h.1).1
/-- a Writer's own block is none of bytes -/
theorem IsWriter.ne {w : World} {base r : Nat} {v : Value} {L : List Nat} (h : IsWriter w base r v L) : v.ownBlock ≠ some r := by
  obtain ⟨h1, ⟨_, _, h2 | ⟨g, cap, cur, rfl, _, hg, _⟩⟩, _⟩ := h
  · rw [h2.1]; simp [Value.ownBlock]
  · intro e
    simp only [Value.ownBlock, Option.some.injEq] at e
    subst e
    rw [hg] at h1
    simp at h1
theorem IsWriter.size {w : World} {base r : Nat} {v : Value} {L : List Nat} (h : IsWriter w base r v L) : base ≤ w.heap.size := Nat.le_of_lt (Nat.lt_of_le_of_lt h.2.2 h.lt)
/-- kept where nothing old turns but other rows -/
theorem IsWriter.grown {w w1 : World} {base r : Nat} {v : Value} {L : List Nat} {row : Option Nat} (h : IsWriter w base r v L) (hg : w.grownBy w1 row) (h1 : some r ≠ row) (h2 : v.ownBlock = none ∨ v.ownBlock ≠ row) : IsWriter w1 base r v L :=
  ⟨by rw [hg.block r h.lt h1]; exact h.1, h.2.1.grown hg h2, h.2.2⟩
theorem IsWriter.kept {w w1 : World} {base r : Nat} {v : Value} {L : List Nat} (h : IsWriter w base r v L) (hb : Below w.heap.size w w1) : IsWriter w1 base r v L :=
  ⟨by rw [hb.block r h.lt]; exact h.1, h.2.1.kept hb, h.2.2⟩
theorem IsWriter.drewN {w : World} {base r : Nat} {v : Value} {L : List Nat} (h : IsWriter w base r v L) (n : Nat) : IsWriter (w.drewN n) base r v L := h
/-- WHAT A CALL OF A Writer LEAVES: its own block and its row may turn, and new blocks; its new row is the old one or a new block. -/
structure Wrote (w w' : World) (r : Nat) (v v' : Value) : Prop where
  os : w'.os = w.os
  tape : w'.tape = w.tape
  output : w'.output = w.output
  size : w.heap.size ≤ w'.heap.size
  block : ∀ k, k < w.heap.size → k ≠ r → v.ownBlock ≠ some k → w'.heap[k]? = w.heap[k]?
  lies : ∀ k, v'.ownBlock = some k → v.ownBlock = some k ∨ w.heap.size ≤ k
theorem Wrote.refl (w : World) (r : Nat) (v : Value) : Wrote w w r v v := ⟨rfl, rfl, rfl, Nat.le_refl _, fun _ _ _ _ => rfl, fun _ h => .inl h⟩
theorem Wrote.trans {w w1 w2 : World} {r : Nat} {v v1 v2 : Value} (h : Wrote w w1 r v v1) (k : Wrote w1 w2 r v1 v2) : Wrote w w2 r v v2 := by
  refine ⟨k.os.trans h.os, k.tape.trans h.tape, k.output.trans h.output, Nat.le_trans h.size k.size, fun i hi hr hv => ?_, fun i hi => ?_⟩
  · rw [k.block i (Nat.lt_of_lt_of_le hi h.size) hr (fun e => ?_), h.block i hi hr hv]
    rcases h.lies i e with h1 | h1
    · exact hv h1
    · omega
  · rcases k.lies i hi with h1 | h1
    · exact h.lies i h1
    · exact .inr (Nat.le_trans h.size h1)
theorem Wrote.below {w w1 : World} {base r : Nat} {v v1 : Value} {L : List Nat} (h : Wrote w w1 r v v1) (hw : IsWriter w base r v L) : Below base w w1 := by
  refine ⟨h.os, h.tape, h.output, h.size, fun k hk => ?_⟩
  have hs := hw.size
  have hr := hw.2.2
  exact h.block k (by omega) (by omega) (fun e => by have := (hw.2.1.2.lt k e).1; omega)
theorem Wrote.bytes {w w1 : World} {r : Nat} {v v1 : Value} {ao : Option Addr} {zs : List Nat} (h : Wrote w w1 r v v1) (hb : BytesAt w ao zs) (hlt : ∀ a, zs ≠ [] → ao = some a → a.block ≠ r ∧ v.ownBlock ≠ some a.block) : BytesAt w1 ao zs := by
  have hl := hb.lt
  obtain ⟨hz, rfl | ⟨b, off, rfl, hc⟩⟩ := hb
  · exact ⟨hz, .inl rfl⟩
  · refine ⟨hz, .inr ⟨b, off, rfl, fun j hj => ?_⟩⟩
    have hne : zs ≠ [] := by intro e; rw [e] at hj; simp at hj
    have h1 := hlt _ hne rfl
    have h2 := h.block b (hl _ hne rfl) h1.1 h1.2
    have h3 := hc j hj
    simp only [World.cell?] at h3 ⊢
    rw [h2]; exact h3
/-- behind the append and the store -/
theorem IsWriter.stored {w w1 : World} {base r : Nat} {v v' : Value} {L L' : List Nat} (h : IsWriter w base r v L) (hg : w.grownBy w1 v.ownBlock) (ho : OwnB w1 base v' L') (hat : ∀ k, v'.ownBlock = some k → v.ownBlock = some k ∨ w.heap.size ≤ k) :
    IsWriter (w1.setCell ⟨r, 0, none⟩ v') base r v' L' ∧ Wrote w (w1.setCell ⟨r, 0, none⟩ v') r v v' := by
  have h1 : w1.heap[r]? = some (.cells #[v] 145 (0, 0)) := by rw [hg.block r h.lt (fun e => h.ne e.symm)]; exact h.1
  have hb : Wrote w (w1.setCell ⟨r, 0, none⟩ v') r v v' := ⟨hg.os, hg.tape, hg.output, by simpa using hg.size, fun k hk hr hv => (heap_setCell_other w1 ⟨r, 0, none⟩ k _ hr).trans (hg.block k hk (fun e => hv e.symm)), hat⟩
  refine ⟨⟨one_setCell h1, ⟨ho.1, ?_⟩, h.2.2⟩, hb⟩
  refine ownsRow_setCell_other ho.2 ?_ _
  intro e
  obtain ⟨_, _, h2 | ⟨g, cap, cur, rfl, _, hg', _⟩⟩ := ho
  · rw [h2.1] at e; simp [Value.ownBlock] at e
  · simp only [Value.ownBlock, Option.some.injEq] at e
    subst e
    rw [hg'] at h1
    simp at h1

theorem grown_alloc {w : World} {o : Obj} {row : Option Nat} (w1 : World) (h : (w.alloc o).grownBy w1 row) : w.grownBy w1 row :=
  ⟨h.os, h.tape, h.output, Nat.le_trans (by simp) h.size, fun k hk hne => (h.block k (by simp; omega) hne).trans (Below.heap_alloc w o k hk)⟩

theorem new_any (w : World) : Calls Tryz.prog 35 #[] w fun e w' => e = .returned (.pointer (some ⟨w.heap.size, 0, none⟩)) ∧ IsWriter w' w.heap.size w.heap.size (.slice none 0 0) [] ∧ Below w.heap.size w w' ∧ w'.heap.size = w.heap.size + 1 := by
  go_enter Tryz.func35, Tryz.ntmps35
  go_wp2
  go_ret
  refine ⟨rfl, ⟨?_, OwnB.nil _ _, Nat.le_refl _⟩, (Below.refl _ _).alloc (Nat.le_refl _) _, by simp⟩
  show (w.heap.push _)[w.heap.size]? = _
  simp

set_option maxHeartbeats 400000 in
theorem wByte_any (w : World) (base r z : Nat) (v : Value) (L : List Nat) (h : IsWriter w base r v L) (hz : z < 256) (hl : L.length + 1 ≤ 140737488355328) :
    Calls Tryz.prog 69 #[.pointer (some ⟨r, 0, none⟩), .int .u8 (z : Int)] w fun e w' => e = .returned (.tuple #[]) ∧ ∃ v', IsWriter w' base r v' (L ++ [z]) ∧ Wrote w w' r v v' := by
  have HW : Hid (IsWriter w base r v L) := h
  have hc := h.cell
  have hlt := h.lt
  clear h
  go_enter Tryz.func69, Tryz.ntmps69
  go_wp2_with (at_builtin; refine wpList_append_bytes_at rfl _ _ rfl base v L rfl (HW.out.2.1.alloc _) _ _ _ [z] rfl rfl (byte_src _ _ z rfl hz) (by simp) (by simpa using hl) (by have := HW.out.size; simp; omega) ?_; intro v' w1 hown1 hgrow1 hat1; obtain ⟨a', c', hv', _, _, _⟩ := hown1.slice; subst hv'; have hg1 := grown_alloc w1 hgrow1; have hc1 : w1.cell? ⟨r, 0, none⟩ = some v := hg1.cell hc (fun e => HW.out.ne e.symm); have hf1 : w1.frozen? ⟨r, 0, none⟩ = false := (World.frozen?_of_block (hg1.block r hlt (fun e => HW.out.ne e.symm))).trans HW.out.frozen; have HS := HW.out.stored hg1 hown1 (by intro k hk; rcases hat1 with e | e <;> rw [e] at hk <;> first | exact .inl hk | (simp at hk; exact .inr (by omega))); have HS' : Hid (IsWriter (w1.setCell ⟨r, 0, none⟩ (.slice a' (L ++ [z]).length c')) base r (.slice a' (L ++ [z]).length c') (L ++ [z]) ∧ Wrote w (w1.setCell ⟨r, 0, none⟩ (.slice a' (L ++ [z]).length c')) r v (.slice a' (L ++ [z]).length c')) := HS; clear HS hown1 hgrow1 hg1 hat1)
  go_end0
  exact ⟨rfl, _, by have h := HS'.out; rw [show (L ++ [z]).length = L.length + 1 from by simp] at h; exact h⟩

set_option maxHeartbeats 400000 in
theorem wRaw_any (w : World) (base r : Nat) (v : Value) (L zs : List Nat) (ao : Option Addr) (n cap : Nat) (h : IsWriter w base r v L) (hn : n = zs.length) (hb : BytesAt w ao zs) (hnil : ao = none → cap = 0) (hl : L.length + zs.length ≤ 140737488355328) :
    Calls Tryz.prog 36 #[.pointer (some ⟨r, 0, none⟩), .slice ao n cap] w fun e w' => e = .returned (.tuple #[]) ∧ ∃ v', IsWriter w' base r v' (L ++ zs) ∧ Wrote w w' r v v' := by
  have HW : Hid (IsWriter w base r v L) := h
  have HB : Hid (BytesAt w ao zs) := hb
  have HN : Hid (n = zs.length) := hn
  have hc := h.cell
  have hlt := h.lt
  clear h hb hn
  go_enter Tryz.func36, Tryz.ntmps36
  go_wp2_with (at_builtin; refine wpList_append_bytes_at rfl _ _ rfl base v L rfl HW.out.2.1 _ _ _ zs rfl HN.out HB.out hnil hl HW.out.size ?_; intro v' w1 hown1 hgrow1 hat1; obtain ⟨a', c', hv', _, _, _⟩ := hown1.slice; subst hv'; have hg1 := hgrow1; have hc1 : w1.cell? ⟨r, 0, none⟩ = some v := hg1.cell hc (fun e => HW.out.ne e.symm); have hf1 : w1.frozen? ⟨r, 0, none⟩ = false := (World.frozen?_of_block (hg1.block r hlt (fun e => HW.out.ne e.symm))).trans HW.out.frozen; have HS := HW.out.stored hg1 hown1 (by intro k hk; rcases hat1 with e | e <;> rw [e] at hk <;> first | exact .inl hk | (simp at hk; exact .inr (by omega))); have HS' : Hid (IsWriter (w1.setCell ⟨r, 0, none⟩ (.slice a' (L ++ zs).length c')) base r (.slice a' (L ++ zs).length c') (L ++ zs) ∧ Wrote w (w1.setCell ⟨r, 0, none⟩ (.slice a' (L ++ zs).length c')) r v (.slice a' (L ++ zs).length c')) := HS; clear HS hown1 hgrow1 hg1 hat1)
  go_end0
  exact ⟨rfl, _, by have h := HS'.out; rw [List.length_append] at h; exact h⟩

/-- a number without sign: seven bits a byte -/
def uint : Nat → Nat → List Nat
  | 0, n => [n % 256]
  | f + 1, n => if 128 ≤ n then (n % 128 + 128) :: uint f (n / 128) else [n]
theorem uint_more (f n : Nat) (h : 128 ≤ n) : uint (f + 1) n = (n % 128 + 128) :: uint f (n / 128) := by rw [uint, if_pos h]
theorem uint_last (f n : Nat) (h : ¬ 128 ≤ n) : uint (f + 1) n = [n] := by rw [uint, if_neg h]
theorem uint_lt : ∀ f n, ∀ z ∈ uint f n, z < 256
  | 0, n => by intro z hz; simp [uint] at hz; omega
  | f + 1, n => by
    intro z hz
    unfold uint at hz
    split at hz
    · rcases List.mem_cons.1 hz with rfl | h
      · omega
      · exact uint_lt f _ z h
    · simp at hz; omega
theorem uint_length : ∀ f n, (uint f n).length ≤ f + 1
  | 0, n => by simp [uint]
  | f + 1, n => by
    unfold uint
    split
    · have := uint_length f (n / 128); simp only [List.length_cons]; omega
    · simp
theorem or128 (n : Nat) : bits .or .u8 ((n : Int) % 256) 128 = ((n % 128 + 128 : Nat) : Int) := by
  have h := u8_or_nat (n % 256) 128 (by omega) (by omega)
  have e : (n % 256) ||| 128 = n % 128 + 128 := by
    have h1 : n % 256 = n % 128 + 128 * (n / 128 % 2) := by omega
    have h2 : ∀ a, a < 128 → ∀ b, b < 2 → (a + 128 * b) ||| 128 = a + 128 := by decide +kernel
    rw [h1]
    exact h2 _ (by omega) _ (by omega)
  rw [e] at h
  rw [show ((n : Int) % 256) = ((n % 256 : Nat) : Int) by omega]
  exact h

set_option maxHeartbeats 400000 in
theorem wUint_any (w : World) (base r n : Nat) (v : Value) (L : List Nat) (h : IsWriter w base r v L) (hn : n < 18446744073709551616) (hl : L.length + 11 ≤ 140737488355328) :
    Calls Tryz.prog 37 #[.pointer (some ⟨r, 0, none⟩), .int .u64 (n : Int)] w fun e w' => e = .returned (.tuple #[]) ∧ ∃ v', IsWriter w' base r v' (L ++ uint 10 n) ∧ Wrote w w' r v v' := by
  have HW : Hid (IsWriter w base r v L) := h
  clear h
  go_enter Tryz.func37, Tryz.ntmps37
  go_wp2
  go_loopw [1] (fun x wr => ∃ (m f : Nat) (M : List Nat) (v1 : Value), x = .int .u64 (m : Int) ∧ m < 2 ^ (7 * f + 1) ∧ f ≤ 9 ∧ M.length + f + 1 ≤ 11 ∧ Hid (M ++ uint (f + 1) m = uint 10 n) ∧ Hid (IsWriter wr base r v1 (L ++ M)) ∧ Hid (Wrote w wr r v v1)) (fun x _ => (intOf x).toNat)
  case atStart => exact ⟨n, 9, [], v, rfl, by omega, by omega, by simp, by simp [Hid], by rw [List.append_nil]; exact HW, Wrote.refl _ _ _⟩
  case round =>
    obtain ⟨m, f, M, v1, rfl, hm, hf, hML, hM, hW, hB⟩ := hrel
    have hml : m < 18446744073709551616 := by
      have : 2 ^ (7 * f + 1) ≤ 2 ^ 64 := Nat.pow_le_pow_right (by omega) (by omega)
      omega
    by_cases hge : 128 ≤ m
    · have hge' : (128 : Int) ≤ (m : Int) := by omega
      have hor := or128 m
      obtain ⟨f', rfl⟩ : ∃ f', f = f' + 1 := by
        cases f with
        | zero => simp at hm; omega
        | succ f => exact ⟨f, rfl⟩
      have HM : Hid ((M ++ [m % 128 + 128]) ++ uint (f' + 1) (m / 128) = uint 10 n) := by
        rw [Hid, ← hM.out, List.append_assoc]
        congr 1
        rw [uint_more _ _ hge]; rfl
      have hm7 : m / 128 < 2 ^ (7 * f' + 1) := by
        have e : 2 ^ (7 * (f' + 1) + 1) = 128 * 2 ^ (7 * f' + 1) := by rw [show 7 * (f' + 1) + 1 = 7 + (7 * f' + 1) by omega, Nat.pow_add]
        omega
      go_wp2_with fail
      rw [show ((m : Int) % 128 + 128) = ((m % 128 + 128 : Nat) : Int) by omega]
      refine (wByte_any wr base r (m % 128 + 128) v1 (L ++ M) hW.out (by omega) (by simp; omega)).mono ?_
      rintro e w1 ⟨rfl, v2, hw2, hb2⟩
      have HW2 : Hid (IsWriter w1 base r v2 (L ++ (M ++ [m % 128 + 128]))) := by rw [← List.append_assoc]; exact hw2
      have HB2 : Hid (Wrote w w1 r v v2) := hB.out.trans hb2
      clear hw2 hb2
      go_wp2
      go_roundw
      case rel => exact ⟨m / 128, f', M ++ [m % 128 + 128], v2, by go_num, hm7, by omega, by simp; omega, HM, HW2, HB2⟩
      case measure => simp [intOf]; omega
    · have hge' : ¬ (128 : Int) ≤ (m : Int) := by omega
      have HM : Hid (M ++ [m] = uint 10 n) := by
        rw [Hid, ← hM.out, uint_last _ _ hge]
      go_wp2_with fail
      refine (wByte_any wr base r m v1 (L ++ M) hW.out (by omega) (by simp; omega)).mono ?_
      rintro e w1 ⟨rfl, v2, hw2, hb2⟩
      have HW2 : Hid (IsWriter w1 base r v2 (L ++ uint 10 n)) := by rw [← HM.out, ← List.append_assoc]; exact hw2
      have HB2 : Hid (Wrote w w1 r v v2) := hB.out.trans hb2
      clear hw2 hb2
      go_wp2
      go_end0
      exact ⟨rfl, v2, HW2.out, HB2.out⟩

/-- a number with sign as one without -/
def fold (n : Int) : Nat := if n < 0 then (2 * (-1 - n) + 1).toNat else (2 * n).toNat
theorem fold_lt (n : Int) (h0 : -9223372036854775808 ≤ n) (h1 : n ≤ 9223372036854775807) : fold n < 18446744073709551616 := by
  unfold fold; split <;> omega

theorem wInt_any (w : World) (base r : Nat) (n : Int) (v : Value) (L : List Nat) (h : IsWriter w base r v L) (h0 : -9223372036854775808 ≤ n) (h1 : n ≤ 9223372036854775807) (hl : L.length + 11 ≤ 140737488355328) :
    Calls Tryz.prog 108 #[.pointer (some ⟨r, 0, none⟩), .int .i64 n] w fun e w' => e = .returned (.tuple #[]) ∧ ∃ v', IsWriter w' base r v' (L ++ uint 10 (fold n)) ∧ Wrote w w' r v v' := by
  have HW : Hid (IsWriter w base r v L) := h
  have hfl := fold_lt n h0 h1
  clear h
  go_enter Tryz.func108, Tryz.ntmps108
  by_cases hn : n < 0
  · have hf : ((fold n : Nat) : Int) = (-1 - n) * 2 + 1 := by unfold fold; rw [if_pos hn]; omega
    have HF : Hid (((fold n : Nat) : Int) = (-1 - n) * 2 + 1) := hf
    clear hf
    go_wp2_with fail
    rw [← HF.out]
    refine (wUint_any w base r (fold n) v L HW.out hfl hl).mono ?_
    rintro e w1 ⟨rfl, v2, hw2, hb2⟩
    go_wp2
    exact bodyPost_ret (v := .tuple #[]) (by simp [results, Tryz.results108, go_sem]) rfl ⟨rfl, v2, hw2, hb2⟩
  · have hf : ((fold n : Nat) : Int) = n * 2 := by unfold fold; rw [if_neg hn]; omega
    have HF : Hid (((fold n : Nat) : Int) = n * 2) := hf
    clear hf
    go_wp2_with fail
    rw [← HF.out]
    refine (wUint_any w base r (fold n) v L HW.out hfl hl).mono ?_
    rintro e w1 ⟨rfl, v2, hw2, hb2⟩
    go_wp2
    go_end0
    exact ⟨rfl, v2, hw2, hb2⟩

theorem wBytes_any (w : World) (base r : Nat) (v : Value) (L zs : List Nat) (ao : Option Addr) (n cap : Nat) (h : IsWriter w base r v L) (hn : n = zs.length) (hb : BytesAt w ao zs) (hnil : ao = none → cap = 0) (hl : L.length + zs.length + 11 ≤ 140737488355328)
    (hlt : ∀ a, zs ≠ [] → ao = some a → a.block ≠ r ∧ v.ownBlock ≠ some a.block) :
    Calls Tryz.prog 38 #[.pointer (some ⟨r, 0, none⟩), .slice ao n cap] w fun e w' => e = .returned (.tuple #[]) ∧ ∃ v', IsWriter w' base r v' (L ++ (uint 10 n ++ zs)) ∧ Wrote w w' r v v' := by
  have HW : Hid (IsWriter w base r v L) := h
  have HB : Hid (BytesAt w ao zs) := hb
  have HN : Hid (n = zs.length) := hn
  have HL : Hid (∀ a, zs ≠ [] → ao = some a → a.block ≠ r ∧ v.ownBlock ≠ some a.block) := hlt
  have hnl : n ≤ 140737488355328 := by omega
  have hul := uint_length 10 n
  have hl1 : L.length + 11 ≤ 140737488355328 := by omega
  have hl2 : (L ++ uint 10 n).length + zs.length ≤ 140737488355328 := by rw [List.length_append]; omega
  clear h hb hn hlt
  go_enter Tryz.func38, Tryz.ntmps38
  go_wp2_with fail
  refine (wUint_any w base r n v L HW.out (by omega) hl1).mono ?_
  rintro e w1 ⟨rfl, v2, hw2, hb2⟩
  have HW2 : Hid (IsWriter w1 base r v2 (L ++ uint 10 n)) := hw2
  have HB2 : Hid (Wrote w w1 r v v2) := hb2
  clear hw2 hb2
  go_wp2_with fail
  refine (wRaw_any w1 base r v2 (L ++ uint 10 n) zs ao n cap HW2.out HN.out (HB2.out.bytes HB.out HL.out) hnil hl2).mono ?_
  rintro e w3 ⟨rfl, v3, hw3, hb3⟩
  go_wp2
  go_end0
  exact ⟨rfl, v3, by rw [← List.append_assoc]; exact hw3, HB2.out.trans hb3⟩

theorem wOut_any (w : World) (base r : Nat) (v : Value) (L : List Nat) (h : IsWriter w base r v L) (hl : L.length ≤ 140737488355328) :
    Calls Tryz.prog 40 #[.pointer (some ⟨r, 0, none⟩)] w fun e w' => e = .returned (.slice (some ⟨w.heap.size, 0, none⟩) L.length L.length) ∧ RowAt w' w.heap.size L ∧ Below w.heap.size w w' ∧ w'.heap.size = w.heap.size + 1 := by
  obtain ⟨a, c, hv, hb, hn, hlc⟩ := h.2.1.slice
  subst hv
  have hc := h.cell
  have HB : Hid (BytesAt w a L) := hb
  clear h hb hn hlc
  go_enter Tryz.func40, Tryz.ntmps40
  go_wp2_with fail
  refine (fresh_any w a c L.length L rfl HB.out (by omega)).mono ?_
  rintro e w1 ⟨rfl, hr, hb1, hs⟩
  go_wp2
  go_ret
  exact ⟨rfl, hr, hb1, hs⟩

end Go.Proofs.YtkmafpfldnapjaaGreatDoor
/-
  PLAIN MATHEMATICS OF NUMBERS OF SEVEN BITS A BYTE (promises 1.1 to 1.5).
-/
namespace Go.Proofs.YtkmafpfldnapjaaGreatDoor

/-- the number at the front of bytes, how many bytes it has, what is wrong: behind i bytes, which were acc -/
def scanFrom : Nat → Nat → List Nat → Nat × Nat × Nat
  | _, _, [] => (0, 0, 10)
  | i, acc, c :: r => if (i = 9 ∧ 1 < c) ∨ (0 < i ∧ c = 0) then (0, 0, 11) else if c < 128 then (acc + c * 2 ^ (7 * i), i + 1, 0) else scanFrom (i + 1) (acc + (c - 128) * 2 ^ (7 * i)) r
def scan (C : List Nat) : Nat × Nat × Nat := scanFrom 0 0 C

theorem pow7 (i : Nat) : 2 ^ (7 * (i + 1)) = 128 * 2 ^ (7 * i) := by rw [show 7 * (i + 1) = 7 + 7 * i by omega, Nat.pow_add]
/-- what was written is read -/
theorem scan_uint (R : List Nat) : ∀ (f i acc n : Nat), i + f = 9 → n < 2 ^ (64 - 7 * i) → (0 < i → 0 < n) → scanFrom i acc (uint (f + 1) n ++ R) = (acc + n * 2 ^ (7 * i), i + (uint (f + 1) n).length, 0)
  | f, i, acc, n, hif, hn, h0 => by
    by_cases hge : 128 ≤ n
    · have hi9 : i ≠ 9 := by
        intro e; subst e
        simp at hn; omega
      cases f with
      | zero => omega
      | succ f =>
        rw [uint_more _ _ hge, List.cons_append, scanFrom, if_neg (by omega), if_neg (by omega), Nat.add_sub_cancel]
        rw [scan_uint R f (i + 1) _ (n / 128) (by omega) (by
          have e : 2 ^ (64 - 7 * i) = 128 * 2 ^ (64 - 7 * (i + 1)) := by rw [show 64 - 7 * i = 7 + (64 - 7 * (i + 1)) by omega, Nat.pow_add]
          omega) (by omega)]
        rw [pow7, List.length_cons]
        have e1 : n = n % 128 + 128 * (n / 128) := by omega
        refine Prod.ext ?_ (Prod.ext (by simp only; omega) rfl)
        simp only
        conv => rhs; rw [e1, Nat.add_mul]
        rw [Nat.add_assoc, Nat.mul_comm 128 (n / 128), Nat.mul_assoc]
    · rw [uint_last _ _ hge, List.singleton_append, scanFrom, if_neg ?_, if_pos (by omega)]
      · rfl
      · rintro (⟨e, h⟩ | ⟨h1, h2⟩)
        · subst e; simp at hn; omega
        · have := h0 h1; omega
/-- what is read is what is written -/
theorem scan_back : ∀ (L : List Nat) (i acc n k : Nat), (∀ z ∈ L, z < 256) → i ≤ 9 → scanFrom i acc L = (n, k, 0) →
    ∃ m, n = acc + m * 2 ^ (7 * i) ∧ m < 2 ^ (64 - 7 * i) ∧ i < k ∧ k - i ≤ L.length ∧ L.take (k - i) = uint (10 - i) m ∧ (0 < i → 0 < m)
  | [], i, acc, n, k, _, _, h => by simp [scanFrom] at h
  | c :: r, i, acc, n, k, hz, hi, h => by
    unfold scanFrom at h
    by_cases h1 : (i = 9 ∧ 1 < c) ∨ (0 < i ∧ c = 0)
    · rw [if_pos h1] at h; simp at h
    · rw [if_neg h1] at h
      by_cases h2 : c < 128
      · rw [if_pos h2] at h
        simp only [Prod.mk.injEq, and_true] at h
        obtain ⟨rfl, rfl⟩ := h
        refine ⟨c, rfl, ?_, by omega, by simp, ?_, by omega⟩
        · by_cases e : i = 9
          · subst e; simp; omega
          · have : 2 ^ 7 ≤ 2 ^ (64 - 7 * i) := Nat.pow_le_pow_right (by omega) (by omega)
            omega
        · rw [Nat.add_sub_cancel_left, show 10 - i = (9 - i) + 1 by omega, uint_last _ _ (by omega)]; rfl
      · rw [if_neg h2] at h
        have hi9 : i ≠ 9 := by omega
        obtain ⟨m, hn, hm, hk, hl, ht, hp⟩ := scan_back r (i + 1) _ n k (fun z hz' => hz z (by simp [hz'])) (by omega) h
        have hc := hz c (by simp)
        refine ⟨(c - 128) + 128 * m, ?_, ?_, by omega, by simp; omega, ?_, by omega⟩
        · rw [hn, pow7, Nat.add_mul, Nat.add_assoc, Nat.mul_comm 128 m, Nat.mul_assoc]
        · have e : 2 ^ (64 - 7 * i) = 128 * 2 ^ (64 - 7 * (i + 1)) := by rw [show 64 - 7 * i = 7 + (64 - 7 * (i + 1)) by omega, Nat.pow_add]
          omega
        · have hmp := hp (by omega)
          rw [show k - i = (k - (i + 1)) + 1 by omega, List.take_succ_cons, ht, show 10 - i = (9 - i) + 1 by omega, uint_more _ _ (by omega)]
          rw [show ((c - 128) + 128 * m) % 128 + 128 = c by omega, show ((c - 128) + 128 * m) / 128 = m by omega, show 10 - (i + 1) = 9 - i by omega]
theorem scan_one (C : List Nat) (n k : Nat) (hz : ∀ z ∈ C, z < 256) (h : scan C = (n, k, 0)) : n < 18446744073709551616 ∧ 0 < k ∧ k ≤ C.length ∧ C.take k = uint 10 n := by
  obtain ⟨m, hn, hm, hk, hl, ht, _⟩ := scan_back C 0 0 n k hz (by omega) h
  simp only [Nat.zero_add, Nat.mul_zero, Nat.pow_zero, Nat.mul_one, Nat.sub_zero] at *
  subst hn
  exact ⟨hm, hk, hl, ht⟩
theorem scan_err : ∀ (L : List Nat) (i acc : Nat), (scanFrom i acc L).2.2 ≠ 0 → (scanFrom i acc L).1 = 0 ∧ (scanFrom i acc L).2.1 = 0
  | [], i, acc, _ => by simp [scanFrom]
  | c :: r, i, acc, h => by
    unfold scanFrom at h ⊢
    split
    · simp
    · rename_i h1
      rw [if_neg h1] at h
      split
      · rename_i h2; rw [if_pos h2] at h; simp at h
      · rename_i h2; rw [if_neg h2] at h; exact scan_err r _ _ h

end Go.Proofs.YtkmafpfldnapjaaGreatDoor
/-
  PLAIN MATHEMATICS OF RECORDS (promises 1.7, 1.8). No program, no dump.
-/
namespace Go.Proofs.YtkmafpfldnapjaaGreatDoor.Rec

/-- a number as four bytes, the lowest first -/
def le4 (n : Nat) : List Nat := [n % 256, n / 256 % 256, n / 65536 % 256, n / 16777216 % 256]
/-- the number that the first four bytes are -/
def un4 (L : List Nat) : Nat := L.getD 0 0 + 256 * L.getD 1 0 + 65536 * L.getD 2 0 + 16777216 * L.getD 3 0
def head (kind n : Nat) : List Nat := kind :: le4 n
/-- a record: 1.7 -/
def sealed (kind : Nat) (load : List Nat) : List Nat := head kind load.length ++ le4 (Crc.sum (head kind load.length)) ++ load ++ le4 (Crc.sum load)
/-- kind, load, place behind, error: 1.8 -/
def opened (b : List Nat) (place : Int) : Nat × List Nat × Int × Int :=
  if place < 0 ∨ (b.length : Int) < place then (0, [], 0, 11) else
  if (b.drop place.toNat).length < 9 then (0, [], 0, 10) else
  if Crc.sum ((b.drop place.toNat).take 5) ≠ un4 ((b.drop place.toNat).drop 5) then (0, [], 0, 13) else
  if 16777216 < un4 ((b.drop place.toNat).drop 1) then (0, [], 0, 12) else
  if (b.drop place.toNat).length < un4 ((b.drop place.toNat).drop 1) + 13 then (0, [], 0, 10) else
  if Crc.sum (((b.drop place.toNat).drop 9).take (un4 ((b.drop place.toNat).drop 1))) ≠ un4 ((b.drop place.toNat).drop (9 + un4 ((b.drop place.toNat).drop 1))) then (0, [], 0, 13) else
  ((b.drop place.toNat).getD 0 0, ((b.drop place.toNat).drop 9).take (un4 ((b.drop place.toNat).drop 1)), place + un4 ((b.drop place.toNat).drop 1) + 13, 0)

theorem le4_lt (n : Nat) : ∀ z ∈ le4 n, z < 256 := by
  intro z hz
  simp only [le4, List.mem_cons, List.not_mem_nil, or_false] at hz
  omega
theorem le4_length (n : Nat) : (le4 n).length = 4 := rfl
theorem un4_le4 (n : Nat) (h : n < 4294967296) (R : List Nat) : un4 (le4 n ++ R) = n := by
  simp [un4, le4]
  omega
theorem getD_lt {L : List Nat} (h : ∀ z ∈ L, z < 256) (j : Nat) : L.getD j 0 < 256 := by
  rw [List.getD_eq_getElem?_getD]
  cases e : L[j]? with
  | none => simp
  | some z => simpa using h z (List.mem_of_getElem? e)
theorem un4_lt {L : List Nat} (h : ∀ z ∈ L, z < 256) : un4 L < 4294967296 := by
  have h0 := getD_lt h 0
  have h1 := getD_lt h 1
  have h2 := getD_lt h 2
  have h3 := getD_lt h 3
  unfold un4
  omega
theorem sum_lt {L : List Nat} : Crc.sum L < 4294967296 := by unfold Crc.sum; omega
theorem head_lt {kind n : Nat} (hk : kind < 256) : ∀ z ∈ head kind n, z < 256 := by
  intro z hz
  rcases List.mem_cons.1 hz with rfl | h
  · exact hk
  · exact le4_lt n z h
theorem sealed_lt {kind : Nat} {load : List Nat} (hk : kind < 256) (hl : ∀ z ∈ load, z < 256) : ∀ z ∈ sealed kind load, z < 256 := by
  intro z hz
  simp only [sealed, List.mem_append] at hz
  rcases hz with ((h | h) | h) | h
  · exact head_lt hk z h
  · exact le4_lt _ z h
  · exact hl z h
  · exact le4_lt _ z h
theorem sealed_length (kind : Nat) (load : List Nat) : (sealed kind load).length = load.length + 13 := by
  simp [sealed, head, le4]
/-- disjoint bits: 'or' is '+' -/
theorem or_add (a b k : Nat) (h : a < 2 ^ k) : a ||| 2 ^ k * b = a + 2 ^ k * b := by
  have e := Crc.low_high k (a + 2 ^ k * b)
  rw [Nat.add_mul_mod_self_left, Nat.mod_eq_of_lt h, Nat.add_mul_div_left _ _ (Nat.two_pow_pos k), Nat.div_eq_of_lt h, Nat.zero_add] at e
  rw [e]
  apply Nat.eq_of_testBit_eq
  intro i
  rw [Nat.testBit_or, Nat.testBit_xor, Nat.testBit_two_pow_mul]
  by_cases hi : k ≤ i
  · have : a.testBit i = false := Nat.testBit_lt_two_pow (Nat.lt_of_lt_of_le h (Nat.pow_le_pow_right (by omega) hi))
    simp [this]
  · simp [hi]
theorem or4 (a b c d : Nat) (ha : a < 256) (hb : b < 256) (hc : c < 256) : ((a ||| 256 * b) ||| 65536 * c) ||| 16777216 * d = a + 256 * b + 65536 * c + 16777216 * d := by
  have h1 := or_add a b 8 (by omega)
  have h2 := or_add (a + 256 * b) c 16 (by omega)
  have h3 := or_add (a + 256 * b + 65536 * c) d 24 (by omega)
  rw [show (2 : Nat) ^ 8 = 256 from rfl] at h1
  rw [show (2 : Nat) ^ 16 = 65536 from rfl] at h2
  rw [show (2 : Nat) ^ 24 = 16777216 from rfl] at h3
  rw [h1, h2, h3]

end Go.Proofs.YtkmafpfldnapjaaGreatDoor.Rec
/-
  THE WALK OF codec.scan.
-/
namespace Go.Proofs.YtkmafpfldnapjaaGreatDoor
open Go.RowKit

theorem u8_and127 (c : Nat) (hc : c < 256) : bits .and .u8 (c : Int) 127 = ((c % 128 : Nat) : Int) := by
  have h := u8_and_nat c 127 hc (by omega)
  rw [show (127 : Nat) = 2 ^ 7 - 1 from rfl, Nat.and_two_pow_sub_one_eq_mod] at h
  exact h
theorem or_low (acc c i : Nat) (ha : acc < 2 ^ (7 * i)) (hi : i ≤ 9) (h9 : i = 9 → c % 128 ≤ 1) : bits .or .u64 (acc : Int) (IntKind.u64.wrap ((c : Int) % 128 * 2 ^ (7 * i))) = ((acc + c % 128 * 2 ^ (7 * i) : Nat) : Int) := by
  have hl : c % 128 * 2 ^ (7 * i) < 18446744073709551616 := by
    by_cases e : i = 9
    · subst e
      have := h9 rfl
      have : c % 128 * 2 ^ (7 * 9) ≤ 1 * 2 ^ (7 * 9) := Nat.mul_le_mul_right _ this
      omega
    · have h1 : 2 ^ (7 * i) ≤ 2 ^ 56 := Nat.pow_le_pow_right (by omega) (by omega)
      have h2 : c % 128 * 2 ^ (7 * i) ≤ 127 * 2 ^ 56 := Nat.mul_le_mul (by omega) h1
      omega
  have ha' : acc < 18446744073709551616 := by
    have : 2 ^ (7 * i) ≤ 2 ^ 63 := Nat.pow_le_pow_right (by omega) (by omega)
    omega
  have e1 : ((c : Int) % 128 * 2 ^ (7 * i)) = ((c % 128 * 2 ^ (7 * i) : Nat) : Int) := by simp
  rw [e1, IntKind.wrap_u64]
  generalize hx : c % 128 * 2 ^ (7 * i) = x at *
  rw [show ((x : Int) % 18446744073709551616) = (x : Int) by omega, u64_or_nat acc x ha' hl, ← hx, Nat.mul_comm (c % 128), Rec.or_add acc (c % 128) (7 * i) ha]

set_option maxRecDepth 100000 in
set_option maxHeartbeats 1000000 in
theorem scan_cells (w : World) (b off cap : Nat) (zs : List Nat) (hz : ∀ z ∈ zs, z < 256) (hm : zs.length ≤ maxLen)
    (hc : ∀ j, j < zs.length → w.cell? ⟨b, off + j, none⟩ = some (.int .u8 ((zs.getD j 0 : Nat) : Int))) :
    Calls Tryz.prog 75 #[.slice (some ⟨b, off, none⟩) zs.length cap] w fun e w' => e = .returned (.tuple #[.int .u64 (((scan zs).1 : Nat) : Int), .int .i64 (((scan zs).2.1 : Nat) : Int), .int .i64 (((scan zs).2.2 : Nat) : Int)]) ∧ w' = w := by
  unfold maxLen at hm
  go_enter Tryz.func75, Tryz.ntmps75
  go_wp2
  go_loop [5, 10] (fun n i => ∃ k acc : Nat, k ≤ zs.length ∧ k ≤ 9 ∧ i = .int .i64 k ∧ n = .int .u64 (acc : Int) ∧ acc < 2 ^ (7 * k) ∧ Hid (scan zs = scanFrom k acc (zs.drop k))) (fun _ i => zs.length - (intOf i).toNat)
  case atStart => exact ⟨0, 0, Nat.zero_le _, by omega, rfl, rfl, by simp, rfl⟩
  case round =>
    obtain ⟨k, acc, hk, hk9, rfl, rfl, hacc, hsc⟩ := hrel
    by_cases hlt : k < zs.length
    · have hcell := hc k hlt
      have hcb := getD_lt hz k
      have HD : Hid (zs.drop k = zs.getD k 0 :: zs.drop (k + 1)) := by
        rw [Hid, List.drop_eq_getElem_cons hlt, List.getD_eq_getElem?_getD, List.getElem?_eq_getElem hlt]; rfl
      generalize zs.getD k 0 = c at *
      have HS : Hid (scan zs = if (k = 9 ∧ 1 < c) ∨ (0 < k ∧ c = 0) then (0, 0, 11) else if c < 128 then (acc + c * 2 ^ (7 * k), k + 1, 0) else scanFrom (k + 1) (acc + (c - 128) * 2 ^ (7 * k)) (zs.drop (k + 1))) := by
        rw [Hid, hsc.out, HD.out, scanFrom]
      clear hc hz
      have hand := u8_and127 c hcb
      by_cases hbad : (k = 9 ∧ 1 < c) ∨ (0 < k ∧ c = 0)
      · have HE : Hid (scan zs = (0, 0, 11)) := by rw [Hid, HS.out, if_pos hbad]
        by_cases h9 : k = 9
        · subst h9
          by_cases h1 : 1 < c
          · have h1' : (1 : Int) < (c : Int) := by omega
            clear hbad
            go_wp2
            go_ret3
            exact ⟨by rw [HE.out]; rfl, rfl⟩
          · obtain rfl : c = 0 := by omega
            clear hbad
            go_wp2
            go_ret3
            exact ⟨by rw [HE.out]; rfl, rfl⟩
        · have hk9' : ¬ (k : Int) = 9 := by omega
          obtain rfl : c = 0 := by omega
          have hk0 : (0 : Int) < (k : Int) := by omega
          clear hbad
          go_wp2
          go_ret3
          exact ⟨by rw [HE.out]; rfl, rfl⟩
      · have HG : Hid (scan zs = if c < 128 then (acc + c * 2 ^ (7 * k), k + 1, 0) else scanFrom (k + 1) (acc + (c - 128) * 2 ^ (7 * k)) (zs.drop (k + 1))) := by rw [Hid, HS.out, if_neg hbad]
        have HO : Hid (bits .or .u64 (acc : Int) (IntKind.u64.wrap ((c : Int) % 128 * 2 ^ (7 * k))) = ((acc + c % 128 * 2 ^ (7 * k) : Nat) : Int)) := or_low acc c k hacc hk9 (by omega)
        have HA : Hid (acc + (c - 128) * 2 ^ (7 * k) < 2 ^ (7 * (k + 1))) := by
          rw [Hid, pow7]
          have : (c - 128) * 2 ^ (7 * k) ≤ 127 * 2 ^ (7 * k) := Nat.mul_le_mul_right _ (by omega)
          omega
        by_cases hlow : c < 128
        · have HE : Hid (scan zs = (acc + c % 128 * 2 ^ (7 * k), k + 1, 0)) := by rw [Hid, HG.out, if_pos hlow, Nat.mod_eq_of_lt hlow]
          have hlow' : (c : Int) < 128 := by omega
          clear hlow
          have hgo : (k = 9 ∧ c = 1) ∨ (k ≠ 9 ∧ (k = 0 ∨ c ≠ 0)) := by omega
          clear hbad
          rcases hgo with ⟨rfl, rfl⟩ | ⟨h9, h0⟩
          · go_wp2
            go_ret3
            exact ⟨by rw [HE.out, ← HO.out]; rfl, rfl⟩
          · have hk9' : ¬ (k : Int) = 9 := by omega
            rcases h0 with hkz | h0
            · have hk0 : ¬ (0 : Int) < (k : Int) := by omega
              clear hkz
              go_wp2
              go_ret3
              exact ⟨by rw [HE.out, ← HO.out]; rfl, rfl⟩
            · have hc0 : ¬ (c : Int) = 0 := by omega
              by_cases hkk : k = 0
              · have hk0 : ¬ (0 : Int) < (k : Int) := by omega
                clear hkk
                go_wp2
                go_ret3
                exact ⟨by rw [HE.out, ← HO.out]; rfl, rfl⟩
              · have hk0 : (0 : Int) < (k : Int) := by omega
                go_wp2
                go_ret3
                exact ⟨by rw [HE.out, ← HO.out]; rfl, rfl⟩
        · have HE : Hid (scan zs = scanFrom (k + 1) (acc + c % 128 * 2 ^ (7 * k)) (zs.drop (k + 1))) := by rw [Hid, HG.out, if_neg hlow, show c - 128 = c % 128 by omega]
          have HA' : Hid (acc + c % 128 * 2 ^ (7 * k) < 2 ^ (7 * (k + 1))) := by rw [show c % 128 = c - 128 by omega]; exact HA
          have hlow' : ¬ (c : Int) < 128 := by omega
          have hk9' : ¬ (k : Int) = 9 := by omega
          have hc0 : ¬ (c : Int) = 0 := by omega
          have hk8 : k + 1 ≤ 9 := by omega
          clear hlow hbad
          by_cases hkk : k = 0
          · have hk0 : ¬ (0 : Int) < (k : Int) := by omega
            clear hkk
            go_wp2
            go_round
            case rel => exact ⟨k + 1, _, by omega, by omega, by go_num, by rw [HO.out], HA'.out, HE⟩
            case measure => simp [intOf]; omega
          · have hk0 : (0 : Int) < (k : Int) := by omega
            go_wp2
            go_round
            case rel => exact ⟨k + 1, _, by omega, by omega, by go_num, by rw [HO.out], HA'.out, HE⟩
            case measure => simp [intOf]; omega
    · have HE : Hid (scan zs = (0, 0, 10)) := by rw [Hid, hsc.out, List.drop_of_length_le (by omega)]; rfl
      clear hc hz
      go_wp2
      go_ret3
      exact ⟨by rw [HE.out]; rfl, rfl⟩

/-- codec.scan, whatever slice of bytes. -/
theorem scan_any (w : World) (ao : Option Addr) (cap n : Nat) (zs : List Nat) (hn : n = zs.length) (h : BytesAt w ao zs) (hm : zs.length ≤ maxLen) :
    Calls Tryz.prog 75 #[.slice ao n cap] w fun e w' => e = .returned (.tuple #[.int .u64 (((scan zs).1 : Nat) : Int), .int .i64 (((scan zs).2.1 : Nat) : Int), .int .i64 (((scan zs).2.2 : Nat) : Int)]) ∧ w' = w := by
  subst hn
  obtain ⟨hz, rfl | ⟨b, off, rfl, hc⟩⟩ := h
  · go_enter Tryz.func75, Tryz.ntmps75
    go_wp2
    go_loop [5, 10] (fun n i => i = .int .i64 0 ∧ n = .int .u64 0) (fun _ i => 0 - (intOf i).toNat)
    case atStart => exact ⟨rfl, rfl⟩
    case round =>
      obtain ⟨rfl, rfl⟩ := hrel
      go_wp2
      go_ret3
      exact ⟨rfl, rfl⟩
  · exact scan_cells w b off cap zs hz hm hc

end Go.Proofs.YtkmafpfldnapjaaGreatDoor
