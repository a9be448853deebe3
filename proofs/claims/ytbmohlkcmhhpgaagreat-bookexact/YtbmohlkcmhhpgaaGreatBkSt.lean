/-
  A BOOK: WHAT IT IS; New, Charge, Latest, Floor, Capacity.
-/
import Derived.Test.YtbmohlkcmhhpgaaGreatBkMem
namespace Go.Proofs.YtbmohlkcmhhpgaaGreat
open Go.RowKit Go.Sort

/-- the newest place of each key, so far -/
def upd (f : K → Pl) (v : V4) : K → Pl := fun k => if k = v.1 then v.2 else f k
def nf (f : K → Pl) (l : List V4) : K → Pl := l.foldl upd f
def f0 : K → Pl := fun _ => (0, 0)
theorem nf_nil (f : K → Pl) : nf f [] = f := rfl
theorem nf_cons (f : K → Pl) (v : V4) (l : List V4) : nf f (v :: l) = nf (upd f v) l := rfl
theorem nf_append (f : K → Pl) (A B : List V4) : nf f (A ++ B) = nf (nf f A) B := by simp [nf]
theorem nf_snoc (f : K → Pl) (A : List V4) (v : V4) : nf f (A ++ [v]) = upd (nf f A) v := by simp [nf]
theorem nf_other {k : K} : ∀ (l : List V4) (f : K → Pl), (∀ v ∈ l, v.1 ≠ k) → nf f l k = f k
  | [], _, _ => rfl
  | v :: l, f, h => by
    rw [nf_cons, nf_other l (upd f v) (fun u hu => h u (by simp [hu]))]
    have : k ≠ v.1 := fun e => h v (by simp) e.symm
    simp [upd, this]
theorem nf_last {f : K → Pl} {X Y : List V4} {u : V4} (h : ∀ v ∈ Y, v.1 ≠ u.1) : nf f (X ++ u :: Y) u.1 = u.2 := by
  rw [nf_append, nf_cons, nf_other Y _ h]
  simp [upd]
/-- the entries of 'charged' -/
def chg (f : K → Pl) : List V4 → List (V4 × Value)
  | [] => []
  | v :: l => (v, pv (f v.1)) :: chg (upd f v) l
theorem chg_append (A B : List V4) : ∀ f, chg f (A ++ B) = chg f A ++ chg (nf f A) B := by
  induction A with
  | nil => intro f; rfl
  | cons v A ih => intro f; simp [chg, nf_cons, ih]
theorem chg_snoc (f : K → Pl) (A : List V4) (v : V4) : chg f (A ++ [v]) = chg f A ++ [(v, pv (nf f A v.1))] := by rw [chg_append]; rfl
theorem chg_fst : ∀ (l : List V4) (f : K → Pl), (chg f l).map Prod.fst = l
  | [], _ => rfl
  | v :: l, f => by simp [chg, chg_fst l]
theorem chg_len (l : List V4) (f : K → Pl) : (chg f l).length = l.length := by
  have := congrArg List.length (chg_fst l f)
  simpa using this
/-- blocks in S may turn, new ones may come -/
structure Fr (S : Nat → Prop) (w w' : World) : Prop where
  os : w'.os = w.os
  tape : w'.tape = w.tape
  output : w'.output = w.output
  size : w.heap.size ≤ w'.heap.size
  block : ∀ k, k < w.heap.size → ¬ S k → w'.heap[k]? = w.heap[k]?
theorem Fr.refl (S : Nat → Prop) (w : World) : Fr S w w := ⟨rfl, rfl, rfl, Nat.le_refl _, fun _ _ _ => rfl⟩
theorem Fr.ofBelow {S : Nat → Prop} {w w' : World} (h : Below w.heap.size w w') : Fr S w w' := ⟨h.os, h.tape, h.output, h.size, fun k hk _ => h.block k hk⟩
theorem Fr.ofGrown {S : Nat → Prop} {w w' : World} {M : Nat} (h : w.grownBy w' (some M)) (hM : S M) : Fr S w w' := ⟨h.os, h.tape, h.output, h.size, fun k hk hn => h.block k hk (fun e => by cases e; exact hn hM)⟩
theorem Fr.trans {S : Nat → Prop} {a b c : World} (h : Fr S a b) (h2 : Fr S b c) : Fr S a c :=
  ⟨h2.os.trans h.os, h2.tape.trans h.tape, h2.output.trans h.output, Nat.le_trans h.size h2.size, fun k hk hS => (h2.block k (Nat.lt_of_lt_of_le hk h.size) hS).trans (h.block k hk hS)⟩
theorem Fr.below {S : Nat → Prop} {a b : World} (h : Fr S a b) {n : Nat} (hn : n ≤ a.heap.size) (hS : ∀ k, S k → n ≤ k) : Below n a b :=
  ⟨h.os, h.tape, h.output, h.size, fun k hk => h.block k (by omega) (fun s => by have := hS k s; omega)⟩
theorem Fr.set {S : Nat → Prop} {a b : World} (h : Fr S a b) (p : Addr) (v : Value) (hp : a.heap.size ≤ p.block ∨ S p.block) : Fr S a (b.setCell p v) :=
  ⟨h.os, h.tape, h.output, by simpa using h.size, fun k hk hS => (heap_setCell_other b p k v (fun e => by rcases hp with hp | hp; · omega
                                                                                                          · exact hS (by rw [e]; exact hp))).trans (h.block k hk hS)⟩
theorem drew_below (w : World) (q : Nat) : Below w.heap.size w (w.drewN q) := ⟨rfl, rfl, rfl, Nat.le_refl _, fun _ _ => rfl⟩
/-- of two versions of a key the later one -/
def later (a b : V4) : Prop := b.2.1 < a.2.1 ∨ b.2.1 = a.2.1 ∧ b.2.2 < a.2.2
/-- a place that may be -/
def PlOK (latest : Int) (v : V4) : Prop := 1 ≤ v.2.1 ∧ v.2.1 ≤ latest ∧ 0 ≤ v.2.2 ∧ v.2.2 < 64
structure BA (w : World) (B Mp Mc Mn : Nat) (cap latest floor : Int) (pins : List (Int × Int)) (all : List V4) (nw : List K) : Prop where
  bk : w.heap[B]? = some (.cells #[.int .i64 cap, .int .i64 latest, .int .i64 floor, .map (some Mp), .map (some Mc), .map (some Mn)] 88 (0, 0))
  mp : MAt ei In64 w Mp (pins.map (fun p => (p.1, ei p.2)))
  mc : MAt ev VIn w Mc (chg f0 all)
  mn : MAt kv KIn w Mn (nw.map (fun k => (k, pv (nf f0 all k))))
  nwa : ∀ k, k ∈ nw ↔ ∃ v ∈ all, v.1 = k
  ne : Mp ≠ Mc ∧ Mp ≠ Mn ∧ Mc ≠ Mn
  cp : 1 ≤ cap ∧ cap ≤ 65536
  la : 0 ≤ floor ∧ floor ≤ latest ∧ latest ≤ 1099511627776
  ln : (all.length : Int) ≤ cap
  pl : ∀ v ∈ all, PlOK latest v
  ps : pins.length ≤ 32 ∧ ∀ p ∈ pins, 0 ≤ p.1 ∧ p.1 ≤ latest ∧ 1 ≤ p.2 ∧ p.2 ≤ 1099511627776
  rs : all.Pairwise (fun a b => a.1 = b.1 → later b a)
  ik : ∀ v ∈ all, isKey v.1 = true
/-- what a book is made of -/
def SB (B Mp Mc Mn : Nat) (k : Nat) : Prop := k = B ∨ k = Mp ∨ k = Mc ∨ k = Mn
section
variable {w w' : World} {B Mp Mc Mn : Nat} {cap latest floor : Int} {pins : List (Int × Int)} {all : List V4} {nw : List K}
theorem BA.lt (h : BA w B Mp Mc Mn cap latest floor pins all nw) {k : Nat} (hk : SB B Mp Mc Mn k) : k < w.heap.size := by
  rcases hk with rfl | rfl | rfl | rfl
  · exact blk_lt h.bk
  · exact h.mp.lt
  · exact h.mc.lt
  · exact h.mn.lt
theorem BA.same (h : BA w B Mp Mc Mn cap latest floor pins all nw) (hs : ∀ k, SB B Mp Mc Mn k → w'.heap[k]? = w.heap[k]?) : BA w' B Mp Mc Mn cap latest floor pins all nw :=
  ⟨(hs B (.inl rfl)).trans h.bk, h.mp.same (hs _ (.inr (.inl rfl))), h.mc.same (hs _ (.inr (.inr (.inl rfl)))), h.mn.same (hs _ (.inr (.inr (.inr rfl)))), h.nwa, h.ne, h.cp, h.la, h.ln, h.pl, h.ps, h.rs, h.ik⟩
theorem BA.kept (h : BA w B Mp Mc Mn cap latest floor pins all nw) (hb : Below w.heap.size w w') : BA w' B Mp Mc Mn cap latest floor pins all nw := h.same (fun _ hk => hb.block _ (h.lt hk))
theorem BA.cells (h : BA w B Mp Mc Mn cap latest floor pins all nw) : w.cell? ⟨B, 0, none⟩ = some (.int .i64 cap) ∧ w.cell? ⟨B, 1, none⟩ = some (.int .i64 latest) ∧ w.cell? ⟨B, 2, none⟩ = some (.int .i64 floor) ∧ w.cell? ⟨B, 3, none⟩ = some (.map (some Mp)) ∧ w.cell? ⟨B, 4, none⟩ = some (.map (some Mc)) ∧ w.cell? ⟨B, 5, none⟩ = some (.map (some Mn)) := by
  refine ⟨?_, ?_, ?_, ?_, ?_, ?_⟩ <;> simp [World.cell?, h.bk]
theorem BA.Bne (h : BA w B Mp Mc Mn cap latest floor pins all nw) : B ≠ Mp ∧ B ≠ Mc ∧ B ≠ Mn := by
  have hb := h.bk
  refine ⟨fun e => ?_, fun e => ?_, fun e => ?_⟩
  · obtain ⟨_, _, h1, _⟩ := h.mp.ex; rw [← e, hb] at h1; cases h1
  · obtain ⟨_, _, h1, _⟩ := h.mc.ex; rw [← e, hb] at h1; cases h1
  · obtain ⟨_, _, h1, _⟩ := h.mn.ex; rw [← e, hb] at h1; cases h1
theorem BA.frozen (h : BA w B Mp Mc Mn cap latest floor pins all nw) (i : Nat) : w.frozen? ⟨B, i, none⟩ = false := frozen_of_row _ _ _ _ _ h.bk
theorem BA.nodup (h : BA w B Mp Mc Mn cap latest floor pins all nw) : all.Nodup := by have := h.mc.kn; rwa [chg_fst] at this
/-- the newest place of a key, as the map has it -/
theorem BA.newest (h : BA w B Mp Mc Mn cap latest floor pins all nw) (k : K) : (fm (nw.map (fun k => (k, pv (nf f0 all k)))) k).getD (pv (0, 0)) = pv (nf f0 all k) := by
  by_cases hk : k ∈ nw
  · obtain ⟨A, C, hA⟩ := List.append_of_mem hk
    have hn := h.mn.kn
    rw [hA, List.map_append, List.map_cons] at hn ⊢
    rw [fm_mid hn]
    rfl
  · rw [fm_none (fun e he e' => by
      obtain ⟨k', hk', rfl⟩ := List.mem_map.1 he
      simp only at e'
      exact hk (e' ▸ hk')), nf_other all f0 (fun v hv e => hk ((h.nwa k).2 ⟨v, hv, e⟩))]
    rfl
end
set_option maxHeartbeats 1000000 in
theorem charge_any (w : World) (B Mp Mc Mn : Nat) (cap latest floor : Int) (pins : List (Int × Int)) (all : List V4) (nw : List K) (h : BA w B Mp Mc Mn cap latest floor pins all nw) :
    Calls Tryz.prog 41 #[ptr B] w fun e w' => e = .returned (.int .i64 (all.length : Int)) ∧ w' = w := by
  obtain ⟨_, _, _, _, c4, _⟩ := h.cells
  have hl := fun ty => kdC.len h.mc ty
  simp only [chg_len] at hl
  clear h
  go_enter Tryz.func41, Tryz.ntmps41
  go_wp2
  go_ret
  exact ⟨rfl, rfl⟩
set_option maxHeartbeats 1000000 in
theorem latest_any (w : World) (B Mp Mc Mn : Nat) (cap latest floor : Int) (pins : List (Int × Int)) (all : List V4) (nw : List K) (h : BA w B Mp Mc Mn cap latest floor pins all nw) :
    Calls Tryz.prog 54 #[ptr B] w fun e w' => e = .returned (.int .i64 latest) ∧ w' = w := by
  obtain ⟨_, c1, _⟩ := h.cells
  clear h
  go_enter Tryz.func54, Tryz.ntmps54
  go_wp2
  go_ret
  exact ⟨rfl, rfl⟩
/-- what New leaves -/
def NewPost (w : World) (cap : Int) (e : Ending) (w' : World) : Prop :=
  ((cap < 1 ∨ 65536 < cap) ∧ e = .returned (.tuple #[.pointer none, .int .i64 91]) ∧ w' = w) ∨
  ((1 ≤ cap ∧ cap ≤ 65536) ∧ ∃ B Mp Mc Mn, e = .returned (.tuple #[ptr B, .int .i64 0]) ∧ BA w' B Mp Mc Mn cap 0 0 [] [] [] ∧ (∀ k, SB B Mp Mc Mn k → w.heap.size ≤ k) ∧ Below w.heap.size w w')
set_option maxRecDepth 100000 in
set_option maxHeartbeats 1000000 in
theorem new_any (w : World) (cap : Int) : Calls Tryz.prog 9 #[.int .i64 cap] w fun e w' => NewPost w cap e w' := by
  have hm1 := fun w => kdP.make w
  have hm2 := fun w => kdC.make w
  have hm3 := fun w => kdN.make w
  by_cases h1 : cap < 1
  · have h1b : decide (cap < 1) = true := decide_eq_true h1
    go_enter Tryz.func9, Tryz.ntmps9
    go_wp2
    go_ret2
    exact .inl ⟨.inl h1, rfl, rfl⟩
  · have h1b : decide (cap < 1) = false := decide_eq_false h1
    by_cases h2 : 65536 < cap
    · have h2b : decide (65536 < cap) = true := decide_eq_true h2
      go_enter Tryz.func9, Tryz.ntmps9
      go_wp2
      go_ret2
      exact .inl ⟨.inr h2, rfl, rfl⟩
    · have h2b : decide (65536 < cap) = false := decide_eq_false h2
      go_enter Tryz.func9, Tryz.ntmps9
      go_wp2
      go_ret2
      refine .inr ⟨by omega, w.heap.size + 3, w.heap.size, w.heap.size + 1, w.heap.size + 2, rfl, ?_, fun k hk => ?_, ?_⟩
      · refine ⟨heap_alloc_new _ _ (by simp), MAt.new ?_, MAt.new ?_, MAt.new ?_, by simp, ⟨by omega, by omega, by omega⟩, by omega, by omega, by simp; omega, by simp, ⟨by simp, by simp⟩, by simp, by simp⟩
        · rw [heap_alloc_old _ _ (by simp; omega), heap_alloc_old _ _ (by simp; omega), heap_alloc_old _ _ (by simp)]
          exact heap_alloc_new _ _ rfl
        · rw [heap_alloc_old _ _ (by simp), heap_alloc_old _ _ (by simp)]
          exact heap_alloc_new _ _ (by simp)
        · rw [heap_alloc_old _ _ (by simp)]
          exact heap_alloc_new _ _ (by simp)
      · rcases hk with rfl | rfl | rfl | rfl <;> omega
      · exact ((((Below.refl _ _).alloc (Nat.le_refl _) _).alloc (by simp) _).alloc (by simp; omega) _).alloc (by simp; omega) _
end Go.Proofs.YtbmohlkcmhhpgaaGreat
