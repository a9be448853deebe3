import Derived.Test.YtmkomfbjgmgemaaGreatDoorJRefDigG
import Derived.Test.YtmkomfbjgmgemaaGreatDoorJLProc
import Derived.Test.YtmkomfbjgmgemaaGreatDoorJBytes
import Derived.Test.YtmkomfbjgmgemaaGreatDoorJAMap
import Derived.Test.YtmkomfbjgmgemaaGreatDoorCrc
/-
  THE WALKS OF instruction, firstLine.
-/
namespace Go.Proofs.YtmkomfbjgmgemaaGreatDoor
open Go.RowKit Go.Sort Go.Shelf

theorem spell_S (op : Int) : spellS op = S (sp op) := (S_of _).symm
set_option maxHeartbeats 1000000 in
theorem instruction_any (w : World) (op A : Int) (hk : In64 A) (hn : NmAt w) (hv : DigVars w) : Calls Tryz.prog 37 #[.agg #[.int .i64 op, .int .i64 A]] w fun e w' => e = .returned (.string (S (instrL (op, A)))) ∧ Grew w w' := by
  have HG1 : Hid (Grew w (w.alloc (.cells #[.int .i64 op, .int .i64 A] 40))) := (Grew.refl w).alloc _
  have HB : Hid (∀ W, Grew (w.alloc (.cells #[.int .i64 op, .int .i64 A] 40)) W → W.cell? ⟨w.heap.size, 0, none⟩ = some (.int .i64 op) ∧ W.cell? ⟨w.heap.size, 1, none⟩ = some (.int .i64 A)) := fun W hW => by
    have hb := Box.new (w := w) (b := w.heap.size) (x := op) (y := A) rfl
    exact ⟨hW.cell hb.1, hW.cell hb.2⟩
  have HN : Hid (NmAt w) := hn
  have HV : Hid (DigVars w) := hv
  have h1 := sp_len op
  have h2 := dg_len hk
  have hs1 : ¬ ((S (sp op)).size + (ByteArray.mk #[32]).size > 9223372036854775807) := S_fit (sp op) [32] (by simp; omega)
  have e1 : S (sp op) ++ ByteArray.mk #[32] = S (sp op ++ [32]) := S_app (sp op) [32]
  have hs2 : ¬ ((S (sp op ++ [32])).size + (S (labelL A)).size > 9223372036854775807) := S_fit _ _ (by simp [labelL]; omega)
  have hs3 : ¬ ((S (sp op ++ [32])).size + (S (dg A)).size > 9223372036854775807) := S_fit _ _ (by simp; omega)
  clear hn hv h1 h2
  go_enter Tryz.func37, Tryz.ntmps37
  obtain ⟨x0, x1⟩ := HB.out _ (Grew.refl _)
  go_wp2_with fail
  generalize w.alloc (.cells #[.int .i64 op, .int .i64 A] 40) = w1 at *
  generalize w.heap.size = B at *
  refine (spell_any w1 op (HN.out.kept HG1.out.below)).mono ?_
  rintro e w2 ⟨rfl, rfl⟩
  rw [spell_S]
  go_wp2_with fail
  refine (isJump_any w2 op).mono ?_
  rintro e w3 ⟨rfl, rfl⟩
  cases hj : jumpB op with
  | true =>
    have HE : Hid (instrL (op, A) = sp op ++ 32 :: labelL A) := by show instrL (op, A) = _; unfold instrL; rw [if_pos hj]
    go_wp2_with fail
    refine (labelOf_any w3 A hk (HV.out.kept HG1.out.below)).mono ?_
    rintro e w4 ⟨rfl, hg4⟩
    have HG4 : Hid (Grew w w4) := HG1.out.trans hg4
    clear hg4
    go_wp2
    go_ret
    exact ⟨by rw [HE.out, S_app, List.append_assoc]; rfl, HG4.out⟩
  | false =>
    go_wp2_with fail
    refine (wants_any w3 op).mono ?_
    rintro e w4 ⟨rfl, rfl⟩
    cases hw : wantsB op with
    | true =>
      have HE : Hid (instrL (op, A) = sp op ++ 32 :: dg A) := by show instrL (op, A) = _; unfold instrL; rw [if_neg (by simp [hj]), if_pos hw]
      go_wp2_with fail
      refine (digits_any w4 A hk (HV.out.kept HG1.out.below)).mono ?_
      rintro e w5 ⟨rfl, hg5⟩
      have HG5 : Hid (Grew w w5) := HG1.out.trans hg5
      clear hg5
      go_wp2
      go_ret
      exact ⟨by rw [HE.out, S_app, List.append_assoc]; rfl, HG5.out⟩
    | false =>
      have HE : Hid (instrL (op, A) = sp op) := by show instrL (op, A) = _; unfold instrL; rw [if_neg (by simp [hj]), if_neg (by simp [hw])]
      go_wp2
      go_ret
      exact ⟨by rw [HE.out]; rfl, HG1.out⟩
/-- the four words -/
def nwL : Nat → List UInt8
  | 0 => [97, 114, 103, 115]
  | 1 => [114, 101, 97, 100, 115]
  | 2 => [119, 114, 105, 116, 101, 115]
  | _ => [108, 111, 99, 97, 108, 115]
theorem nwL_len (i : Nat) : (nwL i).length ≤ 6 := by unfold nwL; split <;> simp
def numP (p : Nums) : Nat → Int
  | 0 => p.args
  | 1 => p.reads
  | 2 => p.writes
  | _ => p.locals
def NwAt (W : World) : Prop := ∀ i, i < 4 → W.cell? ⟨1, i, none⟩ = some (.string (S (nwL i)))
theorem NwAt.kept {W W' : World} (h : NwAt W) (hb : Below W.heap.size W W') : NwAt W' := fun i hi => by
  rw [hb.cell (p := ⟨1, i, none⟩) (cell_lt (h i hi))]; exact h i hi
/-- the first line, up to the i-th number -/
def flL (nm : List UInt8) (p : Nums) : Nat → List UInt8
  | 0 => [112, 114, 111, 99, 32] ++ nm
  | i + 1 => flL nm p i ++ (32 :: nwL i ++ [32] ++ dg (numP p i))
theorem numP_in {p : Nums} (h : NIn p) (i : Nat) : In64 (numP p i) := by
  unfold numP
  split
  · exact h.1
  · exact h.2.1
  · exact h.2.2.1
  · exact h.2.2.2
theorem flL_len {nm : List UInt8} {p : Nums} (h : NIn p) (hn : nm.length ≤ 31) : ∀ i, (flL nm p i).length ≤ 36 + 28 * i
  | 0 => by simp [flL]; omega
  | i + 1 => by
    have h1 := flL_len h hn i
    have h2 := nwL_len i
    have h3 := dg_len (numP_in h i)
    simp [flL]; omega
set_option maxRecDepth 100000 in
theorem idx4 (x0 x1 x2 x3 : Int) (i : Nat) (hi : i < 4) : ∀ w, (Go.Instr.index 114 (.agg #[.int .i64 x0, .int .i64 x1, .int .i64 x2, .int .i64 x3]) (.int .i64 (i : Int))).run Tryz.prog w = .ok (.int .i64 (numP ⟨x0, x1, x2, x3⟩ i)) w := by
  obtain rfl | rfl | rfl | rfl : i = 0 ∨ i = 1 ∨ i = 2 ∨ i = 3 := by omega
  all_goals exact fun _ => by kernel_rfl

set_option maxRecDepth 100000 in
set_option maxHeartbeats 2000000 in
theorem firstLine_any (w : World) (nm : List UInt8) (p : Nums) (ao : Option Addr) (n cap : Nat) (hp : NIn p) (hl : nm.length ≤ 31) (hw : NwAt w) (hv : DigVars w) :
    Calls Tryz.prog 35 #[.agg #[.string (S nm), .int .i64 p.args, .int .i64 p.reads, .int .i64 p.writes, .int .i64 p.locals, .slice ao n cap]] w fun e w' => e = .returned (.string (S (flL nm p 4))) ∧ Grew w w' := by
  have HP : Hid (NIn p) := hp
  have HW : Hid (NwAt w) := hw
  have HV : Hid (DigVars w) := hv
  clear hw hv hp
  obtain ⟨y1, y2, y3, y4⟩ := p
  have mx := mixed
  have hs0 : ¬ ((ByteArray.mk #[112, 114, 111, 99, 32]).size + (S nm).size > 9223372036854775807) := S_fit [112, 114, 111, 99, 32] nm (by simp; omega)
  have e0 : ByteArray.mk #[112, 114, 111, 99, 32] ++ S nm = S (flL nm ⟨y1, y2, y3, y4⟩ 0) := S_app _ _
  go_enter Tryz.func35, Tryz.ntmps35
  have HG1 : Hid (Grew w (w.alloc (.cells #[.string (S nm), .int .i64 y1, .int .i64 y2, .int .i64 y3, .int .i64 y4, .slice ao n cap] 38))) := (Grew.refl w).alloc _
  go_wp2_with fail
  generalize w.alloc (.cells #[.string (S nm), .int .i64 y1, .int .i64 y2, .int .i64 y3, .int .i64 y4, .slice ao n cap] 38) = w1 at *
  go_loopw [3, 22] (fun x y wr => ∃ i : Nat, i ≤ 4 ∧ x = .string (S (flL nm ⟨y1, y2, y3, y4⟩ i)) ∧ y = .int .i64 (i : Int) ∧ Hid (Grew w wr)) (fun _ y _ => 4 - (intOf y).toNat)
  case atStart => exact ⟨0, by omega, rfl, rfl, HG1⟩
  case round =>
    clear HG1
    obtain ⟨i, hi, rfl, rfl, HG⟩ := hrel
    by_cases h4 : i < 4
    · have h4' : (i : Int) < 4 := by omega
      have hix := idx4 y1 y2 y3 y4 i h4
      have HIn := numP_in HP.out i
      have hfl := flL_len HP.out hl i
      have hnw := nwL_len i
      have hdg := dg_len HIn
      have gc : ∀ m os, (grow (wr.drewN m) os).cell? ⟨1, i, none⟩ = some (.string (S (nwL i))) := fun m os => Grew.cell (HG.out.trans ⟨m, os, rfl⟩) (HW.out i h4)
      have HC : Hid (∀ m os, Calls Tryz.prog 18 #[.int .i64 (numP ⟨y1, y2, y3, y4⟩ i)] (grow (wr.drewN m) os) fun e w' => e = .returned (.string (S (dg (numP ⟨y1, y2, y3, y4⟩ i)))) ∧ ∃ q os', w' = grow ((grow (wr.drewN m) os).drewN q) os') := fun m os =>
        digits_any _ _ HIn (HV.out.kept (HG.out.trans ⟨m, os, rfl⟩).below)
      have HS : Hid (flL nm ⟨y1, y2, y3, y4⟩ (i + 1) = flL nm ⟨y1, y2, y3, y4⟩ i ++ (32 :: nwL i ++ [32] ++ dg (numP ⟨y1, y2, y3, y4⟩ i))) := rfl
      generalize numP ⟨y1, y2, y3, y4⟩ i = x at *
      generalize flL nm ⟨y1, y2, y3, y4⟩ i = T at *
      generalize nwL i = u at *
      generalize dg x = d at *
      obtain ⟨u1, h1⟩ : ∃ u1, u1 = 32 :: u := ⟨_, rfl⟩
      obtain ⟨u2, h2⟩ : ∃ u2, u2 = u1 ++ [32] := ⟨_, rfl⟩
      obtain ⟨u3, h3⟩ : ∃ u3, u3 = u2 ++ d := ⟨_, rfl⟩
      obtain ⟨u4, h4e⟩ : ∃ u4, u4 = T ++ u3 := ⟨_, rfl⟩
      have l1 : u1.length ≤ 7 := by rw [h1]; simp; omega
      have l2 : u2.length ≤ 8 := by rw [h2]; simp; omega
      have l3 : u3.length ≤ 28 := by rw [h3]; simp; omega
      have s1 : ¬ ((ByteArray.mk #[32]).size + (S u).size > 9223372036854775807) := S_fit [32] u (by simp; omega)
      have e1 : ByteArray.mk #[32] ++ S u = S u1 := by rw [h1]; exact S_app [32] u
      have s2 : ¬ ((S u1).size + (ByteArray.mk #[32]).size > 9223372036854775807) := S_fit u1 [32] (by simp; omega)
      have e2 : S u1 ++ ByteArray.mk #[32] = S u2 := by rw [h2]; exact S_app u1 [32]
      have s3 : ¬ ((S u2).size + (S d).size > 9223372036854775807) := S_fit u2 d (by omega)
      have e3 : S u2 ++ S d = S u3 := by rw [h3]; exact S_app u2 d
      have s4 : ¬ ((S T).size + (S u3).size > 9223372036854775807) := S_fit T u3 (by omega)
      have e4 : S T ++ S u3 = S u4 := by rw [h4e]; exact S_app T u3
      have HU : Hid (flL nm ⟨y1, y2, y3, y4⟩ (i + 1) = u4) := by rw [HS.out, h4e, h3, h2, h1]; rfl
      clear h1 h2 h3 h4e l1 l2 l3 HS
      clear hfl hnw hdg HIn
      go_wp2_with fail
      refine wp_region_quiet_grown mx (by kernel_rfl) ?_
      repeat (go_big_quiet_step ((go_at_call 18; exact Calls.grown_of (HC.out _ _))))
      refine wpQuiet_nil ?_
      intro _ hw'
      obtain ⟨⟨nq, osq⟩, hw''⟩ := hw'
      subst hw''
      have HG2 : Hid (Grew w (grow (wr.drewN nq) osq)) := HG.out.trans ⟨nq, osq, rfl⟩
      generalize grow (wr.drewN nq) osq = W2 at *
      go_wp2_with fail
      go_roundw
      case rel => exact ⟨i + 1, by omega, by rw [HU.out], by go_num, HG2⟩
      case measure => simp [intOf]; omega
    · obtain rfl : i = 4 := by omega
      rw [show ((4 : Nat) : Int) = 4 from rfl]
      go_wp2
      go_ret
      exact ⟨rfl, HG.out⟩
end Go.Proofs.YtmkomfbjgmgemaaGreatDoor
/-
  THE WALK OF codec.fresh.
-/
namespace Go.Proofs.YtmkomfbjgmgemaaGreatDoor
open Go.RowKit

end Go.Proofs.YtmkomfbjgmgemaaGreatDoor
/-
  THE WALKS OF codec.Writer's METHODS.
-/
namespace Go.Proofs.YtmkomfbjgmgemaaGreatDoor
open Go.RowKit

/-- WHAT A CALL OF A Writer LEAVES: its own block and its row may turn, and new blocks; its new row is the old one or a new block. -/
structure Wrote (w w' : World) (r : Nat) (v v' : Value) : Prop where
  os : w'.os = w.os
  tape : w'.tape = w.tape
  output : w'.output = w.output
  size : w.heap.size ≤ w'.heap.size
  block : ∀ k, k < w.heap.size → k ≠ r → v.ownBlock ≠ some k → w'.heap[k]? = w.heap[k]?
  lies : ∀ k, v'.ownBlock = some k → v.ownBlock = some k ∨ w.heap.size ≤ k
theorem Wrote.refl (w : World) (r : Nat) (v : Value) : Wrote w w r v v := ⟨rfl, rfl, rfl, Nat.le_refl _, fun _ _ _ _ => rfl, fun _ h => .inl h⟩
theorem Wrote.trans {w w1 w2 : World} {r : Nat} {v v1 v2 : Value} (h : Wrote w w1 r v v1) (k : Wrote w1 w2 r v1 v2) : Wrote w w2 r v v2 := by
  refine ⟨k.os.trans h.os, k.tape.trans h.tape, k.output.trans h.output, Nat.le_trans h.size k.size, fun i hi hr hv => ?_, fun i hi => ?_⟩
  · rw [k.block i (Nat.lt_of_lt_of_le hi h.size) hr (fun e => ?_), h.block i hi hr hv]
    rcases h.lies i e with h1 | h1
    · exact hv h1
    · omega
  · rcases k.lies i hi with h1 | h1
    · exact h.lies i h1
    · exact .inr (Nat.le_trans h.size h1)
theorem Wrote.bytes {w w1 : World} {r : Nat} {v v1 : Value} {ao : Option Addr} {zs : List Nat} (h : Wrote w w1 r v v1) (hb : BytesAt w ao zs) (hlt : ∀ a, zs ≠ [] → ao = some a → a.block ≠ r ∧ v.ownBlock ≠ some a.block) : BytesAt w1 ao zs := by
  have hl := hb.lt
  obtain ⟨hz, rfl | ⟨b, off, rfl, hc⟩⟩ := hb
  · exact ⟨hz, .inl rfl⟩
  · refine ⟨hz, .inr ⟨b, off, rfl, fun j hj => ?_⟩⟩
    have hne : zs ≠ [] := by intro e; rw [e] at hj; simp at hj
    have h1 := hlt _ hne rfl
    have h2 := h.block b (hl _ hne rfl) h1.1 h1.2
    have h3 := hc j hj
    simp only [World.cell?] at h3 ⊢
    rw [h2]; exact h3
theorem grown_alloc {w : World} {o : Obj} {row : Option Nat} (w1 : World) (h : (w.alloc o).grownBy w1 row) : w.grownBy w1 row :=
  ⟨h.os, h.tape, h.output, Nat.le_trans (by simp) h.size, fun k hk hne => (h.block k (by simp; omega) hne).trans (Below.heap_alloc w o k hk)⟩




/-- a number without sign: seven bits a byte -/
def uint : Nat → Nat → List Nat
  | 0, n => [n % 256]
  | f + 1, n => if 128 ≤ n then (n % 128 + 128) :: uint f (n / 128) else [n]
theorem uint_more (f n : Nat) (h : 128 ≤ n) : uint (f + 1) n = (n % 128 + 128) :: uint f (n / 128) := by rw [uint, if_pos h]
theorem uint_last (f n : Nat) (h : ¬ 128 ≤ n) : uint (f + 1) n = [n] := by rw [uint, if_neg h]
theorem uint_lt : ∀ f n, ∀ z ∈ uint f n, z < 256
  | 0, n => by intro z hz; simp [uint] at hz; omega
  | f + 1, n => by
    intro z hz
    unfold uint at hz
    split at hz
    · rcases List.mem_cons.1 hz with rfl | h
      · omega
      · exact uint_lt f _ z h
    · simp at hz; omega
theorem uint_length : ∀ f n, (uint f n).length ≤ f + 1
  | 0, n => by simp [uint]
  | f + 1, n => by
    unfold uint
    split
    · have := uint_length f (n / 128); simp only [List.length_cons]; omega
    · simp
theorem or128 (n : Nat) : bits .or .u8 ((n : Int) % 256) 128 = ((n % 128 + 128 : Nat) : Int) := by
  have h := u8_or_nat (n % 256) 128 (by omega) (by omega)
  have e : (n % 256) ||| 128 = n % 128 + 128 := by
    have h1 : n % 256 = n % 128 + 128 * (n / 128 % 2) := by omega
    have h2 : ∀ a, a < 128 → ∀ b, b < 2 → (a + 128 * b) ||| 128 = a + 128 := by decide +kernel
    rw [h1]
    exact h2 _ (by omega) _ (by omega)
  rw [e] at h
  rw [show ((n : Int) % 256) = ((n % 256 : Nat) : Int) by omega]
  exact h


/-- a number with sign as one without -/
def fold (n : Int) : Nat := if n < 0 then (2 * (-1 - n) + 1).toNat else (2 * n).toNat
theorem fold_lt (n : Int) (h0 : -9223372036854775808 ≤ n) (h1 : n ≤ 9223372036854775807) : fold n < 18446744073709551616 := by
  unfold fold; split <;> omega




end Go.Proofs.YtmkomfbjgmgemaaGreatDoor
/-
  PLAIN MATHEMATICS OF NUMBERS OF SEVEN BITS A BYTE (promises 1.1 to 1.5).
-/
namespace Go.Proofs.YtmkomfbjgmgemaaGreatDoor

/-- the number at the front of bytes, how many bytes it has, what is wrong: behind i bytes, which were acc -/
def scanFrom : Nat → Nat → List Nat → Nat × Nat × Nat
  | _, _, [] => (0, 0, 10)
  | i, acc, c :: r => if (i = 9 ∧ 1 < c) ∨ (0 < i ∧ c = 0) then (0, 0, 11) else if c < 128 then (acc + c * 2 ^ (7 * i), i + 1, 0) else scanFrom (i + 1) (acc + (c - 128) * 2 ^ (7 * i)) r
def scan (C : List Nat) : Nat × Nat × Nat := scanFrom 0 0 C

theorem pow7 (i : Nat) : 2 ^ (7 * (i + 1)) = 128 * 2 ^ (7 * i) := by rw [show 7 * (i + 1) = 7 + 7 * i by omega, Nat.pow_add]
/-- what was written is read -/
theorem scan_uint (R : List Nat) : ∀ (f i acc n : Nat), i + f = 9 → n < 2 ^ (64 - 7 * i) → (0 < i → 0 < n) → scanFrom i acc (uint (f + 1) n ++ R) = (acc + n * 2 ^ (7 * i), i + (uint (f + 1) n).length, 0)
  | f, i, acc, n, hif, hn, h0 => by
    by_cases hge : 128 ≤ n
    · have hi9 : i ≠ 9 := by
        intro e; subst e
        simp at hn; omega
      cases f with
      | zero => omega
      | succ f =>
        rw [uint_more _ _ hge, List.cons_append, scanFrom, if_neg (by omega), if_neg (by omega), Nat.add_sub_cancel]
        rw [scan_uint R f (i + 1) _ (n / 128) (by omega) (by
          have e : 2 ^ (64 - 7 * i) = 128 * 2 ^ (64 - 7 * (i + 1)) := by rw [show 64 - 7 * i = 7 + (64 - 7 * (i + 1)) by omega, Nat.pow_add]
          omega) (by omega)]
        rw [pow7, List.length_cons]
        have e1 : n = n % 128 + 128 * (n / 128) := by omega
        refine Prod.ext ?_ (Prod.ext (by simp only; omega) rfl)
        simp only
        conv => rhs; rw [e1, Nat.add_mul]
        rw [Nat.add_assoc, Nat.mul_comm 128 (n / 128), Nat.mul_assoc]
    · rw [uint_last _ _ hge, List.singleton_append, scanFrom, if_neg ?_, if_pos (by omega)]
      · rfl
      · rintro (⟨e, h⟩ | ⟨h1, h2⟩)
        · subst e; simp at hn; omega
        · have := h0 h1; omega
/-- what is read is what is written -/
theorem scan_back : ∀ (L : List Nat) (i acc n k : Nat), (∀ z ∈ L, z < 256) → i ≤ 9 → scanFrom i acc L = (n, k, 0) →
    ∃ m, n = acc + m * 2 ^ (7 * i) ∧ m < 2 ^ (64 - 7 * i) ∧ i < k ∧ k - i ≤ L.length ∧ L.take (k - i) = uint (10 - i) m ∧ (0 < i → 0 < m)
  | [], i, acc, n, k, _, _, h => by simp [scanFrom] at h
  | c :: r, i, acc, n, k, hz, hi, h => by
    unfold scanFrom at h
    by_cases h1 : (i = 9 ∧ 1 < c) ∨ (0 < i ∧ c = 0)
    · rw [if_pos h1] at h; simp at h
    · rw [if_neg h1] at h
      by_cases h2 : c < 128
      · rw [if_pos h2] at h
        simp only [Prod.mk.injEq, and_true] at h
        obtain ⟨rfl, rfl⟩ := h
        refine ⟨c, rfl, ?_, by omega, by simp, ?_, by omega⟩
        · by_cases e : i = 9
          · subst e; simp; omega
          · have : 2 ^ 7 ≤ 2 ^ (64 - 7 * i) := Nat.pow_le_pow_right (by omega) (by omega)
            omega
        · rw [Nat.add_sub_cancel_left, show 10 - i = (9 - i) + 1 by omega, uint_last _ _ (by omega)]; rfl
      · rw [if_neg h2] at h
        have hi9 : i ≠ 9 := by omega
        obtain ⟨m, hn, hm, hk, hl, ht, hp⟩ := scan_back r (i + 1) _ n k (fun z hz' => hz z (by simp [hz'])) (by omega) h
        have hc := hz c (by simp)
        refine ⟨(c - 128) + 128 * m, ?_, ?_, by omega, by simp; omega, ?_, by omega⟩
        · rw [hn, pow7, Nat.add_mul, Nat.add_assoc, Nat.mul_comm 128 m, Nat.mul_assoc]
        · have e : 2 ^ (64 - 7 * i) = 128 * 2 ^ (64 - 7 * (i + 1)) := by rw [show 64 - 7 * i = 7 + (64 - 7 * (i + 1)) by omega, Nat.pow_add]
          omega
        · have hmp := hp (by omega)
          rw [show k - i = (k - (i + 1)) + 1 by omega, List.take_succ_cons, ht, show 10 - i = (9 - i) + 1 by omega, uint_more _ _ (by omega)]
          rw [show ((c - 128) + 128 * m) % 128 + 128 = c by omega, show ((c - 128) + 128 * m) / 128 = m by omega, show 10 - (i + 1) = 9 - i by omega]
theorem scan_one (C : List Nat) (n k : Nat) (hz : ∀ z ∈ C, z < 256) (h : scan C = (n, k, 0)) : n < 18446744073709551616 ∧ 0 < k ∧ k ≤ C.length ∧ C.take k = uint 10 n := by
  obtain ⟨m, hn, hm, hk, hl, ht, _⟩ := scan_back C 0 0 n k hz (by omega) h
  simp only [Nat.zero_add, Nat.mul_zero, Nat.pow_zero, Nat.mul_one, Nat.sub_zero] at *
  subst hn
  exact ⟨hm, hk, hl, ht⟩
theorem scan_err : ∀ (L : List Nat) (i acc : Nat), (scanFrom i acc L).2.2 ≠ 0 → (scanFrom i acc L).1 = 0 ∧ (scanFrom i acc L).2.1 = 0
  | [], i, acc, _ => by simp [scanFrom]
  | c :: r, i, acc, h => by
    unfold scanFrom at h ⊢
    split
    · simp
    · rename_i h1
      rw [if_neg h1] at h
      split
      · rename_i h2; rw [if_pos h2] at h; simp at h
      · rename_i h2; rw [if_neg h2] at h; exact scan_err r _ _ h

end Go.Proofs.YtmkomfbjgmgemaaGreatDoor
/-
  PLAIN MATHEMATICS OF RECORDS (promises 1.7, 1.8). No program, no dump.
-/
namespace Go.Proofs.YtmkomfbjgmgemaaGreatDoor.Rec

/-- a number as four bytes, the lowest first -/
def le4 (n : Nat) : List Nat := [n % 256, n / 256 % 256, n / 65536 % 256, n / 16777216 % 256]
/-- the number that the first four bytes are -/
def un4 (L : List Nat) : Nat := L.getD 0 0 + 256 * L.getD 1 0 + 65536 * L.getD 2 0 + 16777216 * L.getD 3 0
def head (kind n : Nat) : List Nat := kind :: le4 n
/-- a record: 1.7 -/
def sealed (kind : Nat) (load : List Nat) : List Nat := head kind load.length ++ le4 (Crc.sum (head kind load.length)) ++ load ++ le4 (Crc.sum load)
/-- kind, load, place behind, error: 1.8 -/
def opened (b : List Nat) (place : Int) : Nat × List Nat × Int × Int :=
  if place < 0 ∨ (b.length : Int) < place then (0, [], 0, 11) else
  if (b.drop place.toNat).length < 9 then (0, [], 0, 10) else
  if Crc.sum ((b.drop place.toNat).take 5) ≠ un4 ((b.drop place.toNat).drop 5) then (0, [], 0, 13) else
  if 16777216 < un4 ((b.drop place.toNat).drop 1) then (0, [], 0, 12) else
  if (b.drop place.toNat).length < un4 ((b.drop place.toNat).drop 1) + 13 then (0, [], 0, 10) else
  if Crc.sum (((b.drop place.toNat).drop 9).take (un4 ((b.drop place.toNat).drop 1))) ≠ un4 ((b.drop place.toNat).drop (9 + un4 ((b.drop place.toNat).drop 1))) then (0, [], 0, 13) else
  ((b.drop place.toNat).getD 0 0, ((b.drop place.toNat).drop 9).take (un4 ((b.drop place.toNat).drop 1)), place + un4 ((b.drop place.toNat).drop 1) + 13, 0)

theorem le4_lt (n : Nat) : ∀ z ∈ le4 n, z < 256 := by
  intro z hz
  simp only [le4, List.mem_cons, List.not_mem_nil, or_false] at hz
  omega
theorem le4_length (n : Nat) : (le4 n).length = 4 := rfl
theorem un4_le4 (n : Nat) (h : n < 4294967296) (R : List Nat) : un4 (le4 n ++ R) = n := by
  simp [un4, le4]
  omega
theorem getD_lt {L : List Nat} (h : ∀ z ∈ L, z < 256) (j : Nat) : L.getD j 0 < 256 := by
  rw [List.getD_eq_getElem?_getD]
  cases e : L[j]? with
  | none => simp
  | some z => simpa using h z (List.mem_of_getElem? e)
theorem un4_lt {L : List Nat} (h : ∀ z ∈ L, z < 256) : un4 L < 4294967296 := by
  have h0 := getD_lt h 0
  have h1 := getD_lt h 1
  have h2 := getD_lt h 2
  have h3 := getD_lt h 3
  unfold un4
  omega
theorem sum_lt {L : List Nat} : Crc.sum L < 4294967296 := by unfold Crc.sum; omega
theorem head_lt {kind n : Nat} (hk : kind < 256) : ∀ z ∈ head kind n, z < 256 := by
  intro z hz
  rcases List.mem_cons.1 hz with rfl | h
  · exact hk
  · exact le4_lt n z h
theorem sealed_lt {kind : Nat} {load : List Nat} (hk : kind < 256) (hl : ∀ z ∈ load, z < 256) : ∀ z ∈ sealed kind load, z < 256 := by
  intro z hz
  simp only [sealed, List.mem_append] at hz
  rcases hz with ((h | h) | h) | h
  · exact head_lt hk z h
  · exact le4_lt _ z h
  · exact hl z h
  · exact le4_lt _ z h
theorem sealed_length (kind : Nat) (load : List Nat) : (sealed kind load).length = load.length + 13 := by
  simp [sealed, head, le4]
/-- disjoint bits: 'or' is '+' -/
theorem or_add (a b k : Nat) (h : a < 2 ^ k) : a ||| 2 ^ k * b = a + 2 ^ k * b := by
  have e := Crc.low_high k (a + 2 ^ k * b)
  rw [Nat.add_mul_mod_self_left, Nat.mod_eq_of_lt h, Nat.add_mul_div_left _ _ (Nat.two_pow_pos k), Nat.div_eq_of_lt h, Nat.zero_add] at e
  rw [e]
  apply Nat.eq_of_testBit_eq
  intro i
  rw [Nat.testBit_or, Nat.testBit_xor, Nat.testBit_two_pow_mul]
  by_cases hi : k ≤ i
  · have : a.testBit i = false := Nat.testBit_lt_two_pow (Nat.lt_of_lt_of_le h (Nat.pow_le_pow_right (by omega) hi))
    simp [this]
  · simp [hi]
theorem or4 (a b c d : Nat) (ha : a < 256) (hb : b < 256) (hc : c < 256) : ((a ||| 256 * b) ||| 65536 * c) ||| 16777216 * d = a + 256 * b + 65536 * c + 16777216 * d := by
  have h1 := or_add a b 8 (by omega)
  have h2 := or_add (a + 256 * b) c 16 (by omega)
  have h3 := or_add (a + 256 * b + 65536 * c) d 24 (by omega)
  rw [show (2 : Nat) ^ 8 = 256 from rfl] at h1
  rw [show (2 : Nat) ^ 16 = 65536 from rfl] at h2
  rw [show (2 : Nat) ^ 24 = 16777216 from rfl] at h3
  rw [h1, h2, h3]

end Go.Proofs.YtmkomfbjgmgemaaGreatDoor.Rec
