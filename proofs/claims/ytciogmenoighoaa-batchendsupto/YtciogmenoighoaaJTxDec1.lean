import Derived.Test.YtciogmenoighoaaTxDec0
import Derived.Test.YtciogmenoighoaaQKBytes
import Derived.Deep.MidRow
import Derived.Test.YtciogmenoighoaaQKCmp
import Derived.Defers
import Derived.Recover
import Derived.Test.YtciogmenoighoaaTxLent
/-
  THE WALKS OF key, args.
-/
namespace Go.Proofs.Ytciogmenoighoaa.Kk
open Go.RowKit Go.Sort

theorem block_reads {w w1 : World} {r : Nat} {a : Option Addr} {c : Nat} {b : List Nat} {p : Nat} {e : Int} (h : Reads w r a c b p e w1) {k : Nat} (hk : k < w.heap.size) (hr : k ≠ r) : w1.heap[k]? = w.heap[k]? := h.2.block k hk (fun e => hr (by simpa using e))
theorem ldKey (W : World) (G : Nat) (u v : Value) (x y : Int) (h : W.heap[G]? = some (.cells #[u, v] 78 (0, 0))) :
    (loadVar 78 ⟨G, 0, none⟩).run Try.prog ((W.setCell ⟨G, 0, none⟩ (.int .i64 x)).setCell ⟨G, 1, none⟩ (.int .i64 y)) = .ok (.agg #[.int .i64 x, .int .i64 y]) ((W.setCell ⟨G, 0, none⟩ (.int .i64 x)).setCell ⟨G, 1, none⟩ (.int .i64 y)) := by
  have h1 := heap_setCell_same W G 0 _ _ (.int .i64 x) h
  have h2 := heap_setCell_same _ G 1 _ _ (.int .i64 y) h1
  refine run_loadVar_mid (P := Try.prog) _ G 0 78 [.int .i64 x, .int .i64 y] _ ?_ Try.underlying78 rfl (by kernel_rfl)
  intro j v hv
  simp only [World.cell?, h2, Nat.zero_add]
  simpa using hv

set_option maxRecDepth 100000 in
set_option maxHeartbeats 1000000 in
theorem key_ok (w : World) (r : Nat) (a : Option Addr) (c : Nat) (b : List Nat) (p : Nat) (h : IsReader w r a c b p 0) (hp : p + 10 ≤ b.length) :
    Calls Try.prog 94 #[rdv r] w fun e' w' => e' = .returned (.agg #[.int .i64 (fromK ((b.drop p).take 10)).1, .int .i64 (fromK ((b.drop p).take 10)).2]) ∧ Reads w r a c b (p + 10) 0 w' := by
  have H0 : Hid (IsReader w r a c b p 0) := h
  have HR : Hid (Reads w r a c b p 0 ((w.alloc (.cells #[.pointer (some ⟨r, 0, none⟩)] 84)).alloc (.cells #[.int .i64 0, .int .i64 0] 78))) := Reads.alloc (Reads.alloc ⟨h, World.grownBy.refl _ _⟩ _) _
  have HB0 : Hid (((w.alloc (.cells #[.pointer (some ⟨r, 0, none⟩)] 84)).alloc (.cells #[.int .i64 0, .int .i64 0] 78)).heap[w.heap.size]? = some (.cells #[.pointer (some ⟨r, 0, none⟩)] 84 (0, 0)) ∧ ((w.alloc (.cells #[.pointer (some ⟨r, 0, none⟩)] 84)).alloc (.cells #[.int .i64 0, .int .i64 0] 78)).heap[w.heap.size + 1]? = some (.cells #[.int .i64 0, .int .i64 0] 78 (0, 0))) := ⟨(heap_alloc_old _ _ (by simp)).trans (heap_alloc_new _ _ rfl), heap_alloc_new _ _ (by simp)⟩
  have HQ : Hid (rdRaw b p 0 10 = ((b.drop p).take 10, p + 10, 0)) := by
    unfold rdRaw
    rw [if_neg (by simp), if_neg (by omega), if_neg (by omega)]; rfl
  have HLt : Hid (r < w.heap.size) := h.lt
  have HZl : Hid (((b.drop p).take 10).length = 10) := by simp only [List.length_take, List.length_drop, Hid]; omega
  clear h
  go_enter Try.func94, Try.ntmps94
  go_upto_region 1 with fail
  generalize (w.alloc (.cells #[.pointer (some ⟨r, 0, none⟩)] 84)).alloc (.cells #[.int .i64 0, .int .i64 0] 78) = W0 at *
  have k0 : W0.cell? ⟨w.heap.size, 0, none⟩ = some (.pointer (some ⟨r, 0, none⟩)) := by simp [World.cell?, HB0.out.1]
  go_wp2_with fail
  refine (rRaw_any W0 r a c b p 0 10 HR.out.1).mono ?_
  rintro e1 w1 ⟨v, rfl, ho, hr1⟩
  rw [HQ.out] at ho hr1
  have hs0 : w.heap.size + 1 < W0.heap.size := (Array.getElem?_eq_some_iff.1 HB0.out.2).1
  have HB1 : Hid (w1.heap[w.heap.size]? = some (.cells #[.pointer (some ⟨r, 0, none⟩)] 84 (0, 0)) ∧ w1.heap[w.heap.size + 1]? = some (.cells #[.int .i64 0, .int .i64 0] 78 (0, 0))) := ⟨(block_reads hr1 (by omega) (by have := HLt.out; omega)).trans HB0.out.1, (block_reads hr1 (by omega) (by have := HLt.out; omega)).trans HB0.out.2⟩
  have HR1 : Hid (Reads w r a c b (p + 10) 0 w1) := HR.out.trans hr1
  obtain ⟨ao, cap, e0, hby, _, hcap⟩ := ho.slice
  subst e0
  have HBy : Hid (BytesAt w1 ao ((b.drop p).take 10)) := hby
  have HCap : Hid (((b.drop p).take 10).length ≤ cap) := hcap
  rw [HZl.out] at HCap ⊢
  clear hr1 ho k0 HR HB0 hby hcap hs0
  have k1 : w1.cell? ⟨w.heap.size, 0, none⟩ = some (.pointer (some ⟨r, 0, none⟩)) := by simp [World.cell?, HB1.out.1]
  go_wp2_with fail
  refine (look_ok w1 r a c b (p + 10) HR1.out.1).mono ?_
  rintro e2 w2 ⟨rfl, hg2⟩
  have HR2 : Hid (Reads w r a c b (p + 10) 0 w2) := HR1.out.kept hg2.below
  have HBy2 : Hid (BytesAt w2 ao ((b.drop p).take 10)) := HBy.out.kept hg2.below
  have HB2 : Hid (w2.heap[w.heap.size + 1]? = some (.cells #[.int .i64 0, .int .i64 0] 78 (0, 0))) := (hg2.heap (Array.getElem?_eq_some_iff.1 HB1.out.2).1).trans HB1.out.2
  clear hg2 k1 HR1 HBy HB1
  go_wp2_with fail
  refine (fromBytes_any w2 ao cap 10 ((b.drop p).take 10) HZl.out.symm HBy2.out HCap.out (by unfold maxLen; omega)).mono ?_
  rintro e3 w3 ⟨rfl, hg3⟩
  have HR3 : Hid (Reads w r a c b (p + 10) 0 w3) := HR2.out.kept hg3.below
  have HB3 : Hid (w3.heap[w.heap.size + 1]? = some (.cells #[.int .i64 0, .int .i64 0] 78 (0, 0))) := (hg3.heap (Array.getElem?_eq_some_iff.1 HB2.out).1).trans HB2.out
  clear hg3 HR2 HBy2 HB2
  obtain ⟨kk, hkk⟩ : ∃ kk, kk = fromK ((b.drop p).take 10) := ⟨_, rfl⟩
  have HKK : Hid (fromK ((b.drop p).take 10) = kk) := hkk.symm
  rw [← hkk]
  clear hkk
  obtain ⟨k1, k2⟩ := kk
  generalize fromE ((b.drop p).take 10) = fe at *
  have HR4 : Hid (Reads w r a c b (p + 10) 0 (w3.alloc (.cells #[.int .i64 k1, .int .i64 k2] 78))) := HR3.out.alloc _
  have HB4 : Hid ((w3.alloc (.cells #[.int .i64 k1, .int .i64 k2] 78)).heap[w.heap.size + 1]? = some (.cells #[.int .i64 0, .int .i64 0] 78 (0, 0))) := (heap_alloc_old _ _ (Array.getElem?_eq_some_iff.1 HB3.out).1).trans HB3.out
  have m0 : (w3.alloc (.cells #[.int .i64 k1, .int .i64 k2] 78)).cell? ⟨w3.heap.size, 0, none⟩ = some (.int .i64 k1) := cell_new _ _ _ 0 _ rfl
  have m1 : (w3.alloc (.cells #[.int .i64 k1, .int .i64 k2] 78)).cell? ⟨w3.heap.size, 1, none⟩ = some (.int .i64 k2) := cell_new _ _ _ 1 _ rfl
  go_upto_region 4 with fail
  generalize w3.alloc (.cells #[.int .i64 k1, .int .i64 k2] 78) = W4 at *
  have n0 : W4.cell? ⟨w.heap.size + 1, 0, none⟩ = some (.int .i64 0) := by simp [World.cell?, HB4.out]
  have n1 : W4.cell? ⟨w.heap.size + 1, 1, none⟩ = some (.int .i64 0) := by simp [World.cell?, HB4.out]
  have f0 := frozen_of_row W4 (w.heap.size + 1) 0 _ _ HB4.out
  have f1 := frozen_of_row W4 (w.heap.size + 1) 1 _ _ HB4.out
  have hld := ldKey W4 (w.heap.size + 1) _ _ k1 k2 HB4.out
  have HF : Hid (Reads w r a c b (p + 10) 0 ((W4.setCell ⟨w.heap.size + 1, 0, none⟩ (.int .i64 k1)).setCell ⟨w.heap.size + 1, 1, none⟩ (.int .i64 k2))) := (HR4.out.setNew H0.out _ 0 _ (by omega)).setNew H0.out _ 1 _ (by omega)
  have HLd : Hid ((loadVar 78 ⟨w.heap.size + 1, 0, none⟩).run Try.prog ((W4.setCell ⟨w.heap.size + 1, 0, none⟩ (.int .i64 k1)).setCell ⟨w.heap.size + 1, 1, none⟩ (.int .i64 k2)) = .ok (.agg #[.int .i64 k1, .int .i64 k2]) ((W4.setCell ⟨w.heap.size + 1, 0, none⟩ (.int .i64 k1)).setCell ⟨w.heap.size + 1, 1, none⟩ (.int .i64 k2))) := hld
  clear hld HR4 HB4
  go_wp2
  refine bodyPost_ret (v := .agg #[.int .i64 k1, .int .i64 k2]) ?_ rfl ⟨by rw [HKK.out], HF.out⟩
  simp [results, Try.results94, asAddr, HLd.out]

set_option maxRecDepth 100000 in
set_option maxHeartbeats 1000000 in
theorem key_bad (w : World) (r : Nat) (a : Option Addr) (c : Nat) (b : List Nat) (p : Nat) (h : IsReader w r a c b p 0) (hp : ¬ p + 10 ≤ b.length) :
    Calls Try.prog 94 #[rdv r] w fun e' w' => e' = .panicked (flt p 10) ∧ w.grownBy w' (some r) := by
  have HR : Hid (Reads w r a c b p 0 ((w.alloc (.cells #[.pointer (some ⟨r, 0, none⟩)] 84)).alloc (.cells #[.int .i64 0, .int .i64 0] 78))) := Reads.alloc (Reads.alloc ⟨h, World.grownBy.refl _ _⟩ _) _
  have HB0 : Hid (((w.alloc (.cells #[.pointer (some ⟨r, 0, none⟩)] 84)).alloc (.cells #[.int .i64 0, .int .i64 0] 78)).heap[w.heap.size]? = some (.cells #[.pointer (some ⟨r, 0, none⟩)] 84 (0, 0))) := (heap_alloc_old _ _ (by simp)).trans (heap_alloc_new _ _ rfl)
  have HQ : Hid (rdRaw b p 0 10 = ([], p, 10)) := by
    have := h.2.2.1
    unfold rdRaw
    rw [if_neg (by simp), if_neg (by omega), if_pos (by omega)]; rfl
  have HLt : Hid (r < w.heap.size) := h.lt
  clear h hp
  go_enter Try.func94, Try.ntmps94
  go_upto_region 1 with fail
  generalize (w.alloc (.cells #[.pointer (some ⟨r, 0, none⟩)] 84)).alloc (.cells #[.int .i64 0, .int .i64 0] 78) = W0 at *
  have k0 : W0.cell? ⟨w.heap.size, 0, none⟩ = some (.pointer (some ⟨r, 0, none⟩)) := by simp [World.cell?, HB0.out]
  go_wp2_with fail
  refine (rRaw_any W0 r a c b p 0 10 HR.out.1).mono ?_
  rintro e1 w1 ⟨v, rfl, _, hr1⟩
  rw [HQ.out] at hr1
  have hs0 : w.heap.size < W0.heap.size := (Array.getElem?_eq_some_iff.1 HB0.out).1
  have HB1 : Hid (w1.heap[w.heap.size]? = some (.cells #[.pointer (some ⟨r, 0, none⟩)] 84 (0, 0))) := (block_reads hr1 (by omega) (by have := HLt.out; omega)).trans HB0.out
  have HR1 : Hid (Reads w r a c b p 10 w1) := HR.out.trans hr1
  clear hr1 k0 HR HB0 hs0
  have k1 : w1.cell? ⟨w.heap.size, 0, none⟩ = some (.pointer (some ⟨r, 0, none⟩)) := by simp [World.cell?, HB1.out]
  go_wp2_with fail
  refine (look_bad w1 r a c b p 10 HR1.out.1 (by omega)).mono ?_
  rintro e2 w2 ⟨rfl, hg2⟩
  have HR2 : Hid (w.grownBy w2 (some r)) := (HR1.out.kept hg2.below).2
  clear hg2 k1 HR1 HB1
  go_wp2
  exact ⟨rfl, rfl, HR2.out⟩

/-- what a reading hands back -/
def RdPost {α : Type} (w : World) (r : Nat) (a : Option Addr) (c : Nat) (b : List Nat) (R : Rd α) (ok : α → Value → World → Prop) (e' : Ending) (w' : World) : Prop :=
  match R with
  | .ok (x, q) => ∃ v, e' = .returned v ∧ Reads w r a c b q 0 w' ∧ ok x v w'
  | .error (q, x) => e' = .panicked (flt q x) ∧ w.grownBy w' (some r)
theorem RdPost.good {α : Type} {w w' : World} {r : Nat} {a : Option Addr} {c : Nat} {b : List Nat} {R : Rd α} {ok : α → Value → World → Prop} {x : α} {q : Nat} {v : Value} (hR : R = .ok (x, q)) (h : Reads w r a c b q 0 w') (k : ok x v w') : RdPost w r a c b R ok (.returned v) w' := by
  rw [hR]; exact ⟨v, rfl, h, k⟩
theorem RdPost.fails {α : Type} {w w' : World} {r : Nat} {a : Option Addr} {c : Nat} {b : List Nat} {R : Rd α} {ok : α → Value → World → Prop} {x : Int} {q : Nat} (hR : R = .error (q, x)) (h : w.grownBy w' (some r)) : RdPost w r a c b R ok (.panicked (flt q x)) w' := by
  rw [hR]; exact ⟨rfl, h⟩
/-- a row of numbers that a call has made -/
def Own64 (w0 : World) (A : List Int) (v : Value) (w' : World) : Prop := ∃ g, v = .slice (some ⟨g, 0, none⟩) A.length A.length ∧ R64 w' g A ∧ w0.heap.size ≤ g
structure AS (w W : World) (r : Nat) (a : Option Addr) (c : Nat) (b : List Nat) (q g n : Nat) (A : List Int) : Prop where
  rd : Reads w r a c b q 0 W
  box : W.heap[w.heap.size]? = some (.cells #[.pointer (some ⟨r, 0, none⟩)] 84 (0, 0))
  row : R64 W g (A ++ List.replicate (n - A.length) 0)
  gt : w.heap.size < g
  rlt : r < w.heap.size
theorem AS.cell {w W : World} {r : Nat} {a : Option Addr} {c : Nat} {b : List Nat} {q g n : Nat} {A : List Int} (h : AS w W r a c b q g n A) : W.cell? ⟨w.heap.size, 0, none⟩ = some (.pointer (some ⟨r, 0, none⟩)) := by simp [World.cell?, h.box]
theorem setA {A : List Int} {n k : Nat} {z : Int} (hk : A.length = k) (hn : k < n) : (A ++ List.replicate (n - A.length) 0).set k z = (A ++ [z]) ++ List.replicate (n - (A ++ [z]).length) 0 := by
  rw [List.set_append_right _ _ (by omega), hk, Nat.sub_self, show n - k = (n - (k + 1)) + 1 by omega, List.replicate_succ, List.set_cons_zero]
  simp [hk]
/-- behind Int and the store -/
theorem AS.put {w W W1 : World} {r p0 : Nat} {a : Option Addr} {c : Nat} {b : List Nat} {q g n k q1 : Nat} {e1 : Int} {A : List Int} (h : AS w W r a c b q g n A) (h0 : IsReader w r a c b p0 0) (hr : Reads W r a c b q1 e1 W1) (z : Int) (hk : A.length = k) (hn : k < n) :
    R64 W1 g (A ++ List.replicate (n - A.length) 0) ∧ Reads w r a c b q1 e1 (W1.setCell ⟨g, k, none⟩ (.int .i64 z)) ∧ (W1.setCell ⟨g, k, none⟩ (.int .i64 z)).heap[w.heap.size]? = some (.cells #[.pointer (some ⟨r, 0, none⟩)] 84 (0, 0)) ∧ R64 (W1.setCell ⟨g, k, none⟩ (.int .i64 z)) g ((A ++ [z]) ++ List.replicate (n - (A ++ [z]).length) 0) := by
  have hgt := h.gt
  have hrl := h.rlt
  have hb := (Array.getElem?_eq_some_iff.1 h.box).1
  have hrow : R64 W1 g (A ++ List.replicate (n - A.length) 0) := h.row.same (block_reads hr h.row.lt (by omega))
  refine ⟨hrow, (h.rd.trans hr).setNew h0 g k _ (by omega), ?_, ?_⟩
  · rw [heap_setCell_other W1 ⟨g, k, none⟩ w.heap.size _ (by show w.heap.size ≠ g; omega)]
    exact (block_reads hr hb (by omega)).trans h.box
  · have := hrow.set k z
    rw [setA hk hn] at this
    exact this
theorem AS.kept {w W W1 : World} {r : Nat} {a : Option Addr} {c : Nat} {b : List Nat} {q g n : Nat} {A : List Int} (h : AS w W r a c b q g n A) (hb : Below W.heap.size W W1) : AS w W1 r a c b q g n A :=
  ⟨h.rd.kept hb, (hb.block _ (Array.getElem?_eq_some_iff.1 h.box).1).trans h.box, h.row.same (hb.block _ h.row.lt), h.gt, h.rlt⟩

set_option maxRecDepth 100000 in
set_option maxHeartbeats 2000000 in
theorem args_r (w : World) (r : Nat) (a : Option Addr) (c : Nat) (b : List Nat) (p : Nat) (h : IsReader w r a c b p 0) :
    Calls Try.prog 81 #[rdv r] w fun e' w' => RdPost w r a c b (argR b p) (Own64 w) e' w' := by
  have H0 : Hid (IsReader w r a c b p 0) := h
  have HR : Hid (Reads w r a c b p 0 (w.alloc (.cells #[.pointer (some ⟨r, 0, none⟩)] 84))) := Reads.alloc ⟨h, World.grownBy.refl _ _⟩ _
  have HB0 : Hid ((w.alloc (.cells #[.pointer (some ⟨r, 0, none⟩)] 84)).heap[w.heap.size]? = some (.cells #[.pointer (some ⟨r, 0, none⟩)] 84 (0, 0))) := heap_alloc_new _ _ rfl
  have HLt : Hid (r < w.heap.size) := h.lt
  have HA : Hid (argR b p = match upR b 16 p with | .ok (n, q) => argsR b n [] q | .error x => .error x) := rfl
  clear h
  generalize argR b p = TT at *
  go_enter Try.func81, Try.ntmps81
  go_upto_region 1 with fail
  generalize w.alloc (.cells #[.pointer (some ⟨r, 0, none⟩)] 84) = W0 at *
  have k0 : W0.cell? ⟨w.heap.size, 0, none⟩ = some (.pointer (some ⟨r, 0, none⟩)) := by simp [World.cell?, HB0.out]
  cases hu : upR b 16 p with
  | error x =>
    obtain ⟨q, x⟩ := x
    have HT : Hid (TT = .error (q, x)) := by rw [HA.out, hu]; rfl
    have HU : Hid (upR b 16 p = .error (q, x)) := hu
    clear hu HA
    go_wp2_with fail
    refine (upto_bad W0 r a c b p 16 q x HR.out.1 HU.out).mono ?_
    rintro e1 w1 ⟨rfl, hg1⟩
    have HF : Hid (RdPost w r a c b TT (Own64 w) (.panicked (flt q x)) w1) := RdPost.fails HT.out (grown_trans' HR.out.2 hg1)
    clear hg1
    go_wp2
    exact ⟨rfl, HF.out⟩
  | ok x =>
    obtain ⟨n, q⟩ := x
    have HU : Hid (upR b 16 p = .ok (n, q)) := hu
    have HT : Hid (argsR b n [] q = TT) := by rw [HA.out, hu]; rfl
    clear hu HA
    go_wp2_with fail
    refine (upto_ok W0 r a c b p 16 n q HR.out.1 (by omega) HU.out).mono ?_
    rintro e1 w1 ⟨rfl, hr1, hn⟩
    have HB1 : Hid (w1.heap[w.heap.size]? = some (.cells #[.pointer (some ⟨r, 0, none⟩)] 84 (0, 0))) := (block_reads hr1 (Array.getElem?_eq_some_iff.1 HB0.out).1 (by have := HLt.out; omega)).trans HB0.out
    have HR1 : Hid (Reads w r a c b q 0 w1) := HR.out.trans hr1
    have hmk := make_nums n (n : Int) rfl (by omega)
    clear hr1 HR HB0 k0
    have HS0 : Hid (AS w (w1.alloc (.cells (cellsI (List.replicate n 0)) 2)) r a c b q w1.heap.size n []) := ⟨HR1.out.alloc _, (heap_alloc_old _ _ (Array.getElem?_eq_some_iff.1 HB1.out).1).trans HB1.out, by rw [List.nil_append, List.length_nil, Nat.sub_zero]; exact heap_alloc_new _ _ rfl, (Array.getElem?_eq_some_iff.1 HB1.out).1, HLt.out⟩
    go_upto_region 2 with fail
    generalize w1.alloc (.cells (cellsI (List.replicate n 0)) 2) = W1 at *
    generalize w1.heap.size = g at *
    clear hmk HR1 HB1
    go_wp2_with fail
    go_loopw [10] (fun x wr => ∃ (k q : Nat) (A : List Int), k ≤ n ∧ x = .int .i64 (k : Int) ∧ A.length = k ∧ Hid (AS w wr r a c b q g n A) ∧ Hid (argsR b (n - k) A q = TT)) (fun x _ => n - (intOf x).toNat)
    case atStart => exact ⟨0, q, [], Nat.zero_le _, rfl, rfl, HS0, HT⟩
    case round =>
      clear HS0 HT HU q
      obtain ⟨k, q, A, hk, rfl, hA, HS, HT⟩ := hrel
      by_cases hlt : k < n
      · have k0 := HS.out.cell
        have HT2 : Hid (TT = match intR b q with | .ok (x, q1) => argsR b (n - (k + 1)) (A ++ [x]) q1 | .error x => .error x) := by
          rw [← HT.out, show n - k = (n - (k + 1)) + 1 by omega]; rfl
        have HI : Hid (intR b q = match upR b 18446744073709551615 q with | .ok (m, q1) => .ok (unfold m, q1) | .error x => .error x) := rfl
        clear HT
        generalize intR b q = IR at *
        cases hu : upR b 18446744073709551615 q with
        | error x =>
          obtain ⟨q1, x⟩ := x
          have HT : Hid (TT = .error (q1, x)) := by rw [HT2.out, HI.out, hu]; rfl
          have HU : Hid ((rdUpto b q 0 18446744073709551615).2 = (q1, x) ∧ x ≠ 0) := by
            unfold upR at hu
            split at hu
            · cases hu
            · rename_i h0
              simp only [Except.error.injEq, Prod.mk.injEq] at hu
              obtain ⟨rfl, rfl⟩ := hu
              exact ⟨rfl, h0⟩
          clear hu HT2 HI
          go_wp2_with fail
          refine (rInt_any wr r a c b q 0 HS.out.rd.1).mono ?_
          rintro e2 w2 ⟨rfl, hr2⟩
          rw [HU.out.1] at hr2
          generalize unfold (rdUpto b q 0 18446744073709551615).1 = z at *
          have hp := HS.out.put H0.out hr2 z hA hlt
          have e1 := hp.1.cell k (by simp [hA]; omega)
          have f1 := hp.1.frozen k
          have HP : Hid (Reads w r a c b q1 x (w2.setCell ⟨g, k, none⟩ (.int .i64 z)) ∧ (w2.setCell ⟨g, k, none⟩ (.int .i64 z)).cell? ⟨w.heap.size, 0, none⟩ = some (.pointer (some ⟨r, 0, none⟩))) := ⟨hp.2.1, by simp [World.cell?, hp.2.2.1]⟩
          clear hp hr2 k0 HS
          go_upto_region 6 with fail
          generalize w2.setCell ⟨g, k, none⟩ (.int .i64 z) = W3 at *
          have k3 := HP.out.2
          clear e1 f1
          go_wp2_with fail
          refine (look_bad W3 r a c b q1 x HP.out.1.1 HU.out.2).mono ?_
          rintro e3 w4 ⟨rfl, hg4⟩
          have HF : Hid (RdPost w r a c b TT (Own64 w) (.panicked (flt q1 x)) w4) := RdPost.fails HT.out (HP.out.1.kept hg4.below).2
          clear hg4 k3
          go_wp2
          exact ⟨rfl, HF.out⟩
        | ok x =>
          obtain ⟨m, q1⟩ := x
          have HT : Hid (argsR b (n - (k + 1)) (A ++ [unfold m]) q1 = TT) := by rw [HT2.out, HI.out, hu]; rfl
          have HU : Hid (rdUpto b q 0 18446744073709551615 = (m, q1, 0)) := by
            unfold upR at hu
            split at hu
            · rename_i h0
              simp only [Except.ok.injEq, Prod.mk.injEq] at hu
              obtain ⟨rfl, rfl⟩ := hu
              exact Prod.ext rfl (Prod.ext rfl h0)
            · cases hu
          clear hu HT2 HI
          go_wp2_with fail
          refine (rInt_any wr r a c b q 0 HS.out.rd.1).mono ?_
          rintro e2 w2 ⟨rfl, hr2⟩
          rw [HU.out] at hr2 ⊢
          simp only at hr2 ⊢
          have hp := HS.out.put H0.out hr2 (unfold m) hA hlt
          have HSg : Hid (w.heap.size < g ∧ r < w.heap.size) := ⟨HS.out.gt, HS.out.rlt⟩
          generalize unfold m = z at *
          have e1 := hp.1.cell k (by simp [hA]; omega)
          have f1 := hp.1.frozen k
          have HP : Hid (AS w (w2.setCell ⟨g, k, none⟩ (.int .i64 z)) r a c b q1 g n (A ++ [z])) := ⟨hp.2.1, hp.2.2.1, hp.2.2.2, HSg.out.1, HSg.out.2⟩
          clear hp hr2 k0 HS
          go_upto_region 6 with fail
          generalize w2.setCell ⟨g, k, none⟩ (.int .i64 z) = W3 at *
          have k3 := HP.out.cell
          clear e1 f1
          go_wp2_with fail
          refine (look_ok W3 r a c b q1 HP.out.rd.1).mono ?_
          rintro e3 w4 ⟨rfl, hg4⟩
          have HS4 : Hid (AS w w4 r a c b q1 g n (A ++ [z])) := HP.out.kept hg4.below
          clear hg4 k3 HP
          go_wp2
          go_roundw
          case rel => exact ⟨k + 1, q1, A ++ [z], by omega, by go_num, by simp [hA], HS4, HT⟩
          case measure => simp [intOf]; omega
      · obtain rfl : k = n := by omega
        have HF : Hid (RdPost w r a c b TT (Own64 w) (.returned (.slice (some ⟨g, 0, none⟩) k k)) wr) := by
          have h1 := HT.out
          rw [Nat.sub_self] at h1
          refine RdPost.good (x := A) (q := q) h1.symm HS.out.rd ⟨g, by rw [hA], ?_, by have := HS.out.gt; omega⟩
          have h2 := HS.out.row
          rw [hA, Nat.sub_self, List.replicate_zero, List.append_nil] at h2
          exact h2
        clear HS HT
        go_wp2
        go_ret
        exact HF.out
end Go.Proofs.Ytciogmenoighoaa.Kk
/-
  THE WALK OF set.
-/
namespace Go.Proofs.Ytciogmenoighoaa.Kk
open Go.RowKit Go.Sort

/-- a row of keys that a call has made -/
def OwnKs (w0 : World) (L : List K) (v : Value) (w' : World) : Prop := ∃ g, v = .slice (some ⟨g, 0, none⟩) L.length L.length ∧ RK w' g L ∧ w0.heap.size ≤ g
structure KS (w W : World) (r : Nat) (a : Option Addr) (c : Nat) (b : List Nat) (q g n : Nat) (A : List K) : Prop where
  rd : Reads w r a c b q 0 W
  box : W.heap[w.heap.size]? = some (.cells #[.pointer (some ⟨r, 0, none⟩)] 84 (0, 0))
  row : RK W g (A ++ List.replicate (n - A.length) (0, 0))
  gt : w.heap.size < g
  rlt : r < w.heap.size
theorem KS.cell {w W : World} {r : Nat} {a : Option Addr} {c : Nat} {b : List Nat} {q g n : Nat} {A : List K} (h : KS w W r a c b q g n A) : W.cell? ⟨w.heap.size, 0, none⟩ = some (.pointer (some ⟨r, 0, none⟩)) := by simp [World.cell?, h.box]
theorem setK {A : List K} {n k : Nat} {z : K} (hk : A.length = k) (hn : k < n) : (A ++ List.replicate (n - A.length) (0, 0)).set k z = (A ++ [z]) ++ List.replicate (n - (A ++ [z]).length) (0, 0) := by
  rw [List.set_append_right _ _ (by omega), hk, Nat.sub_self, show n - k = (n - (k + 1)) + 1 by omega, List.replicate_succ, List.set_cons_zero]
  simp [hk]
theorem KS.step {w W W1 : World} {r : Nat} {a : Option Addr} {c : Nat} {b : List Nat} {q g n q1 : Nat} {A : List K} (h : KS w W r a c b q g n A) (hr : Reads W r a c b q1 0 W1) : KS w W1 r a c b q1 g n A := by
  have hgt := h.gt
  have hrl := h.rlt
  exact ⟨h.rd.trans hr, (block_reads hr (Array.getElem?_eq_some_iff.1 h.box).1 (by omega)).trans h.box, h.row.same (block_reads hr h.row.lt (by omega)), h.gt, h.rlt⟩
theorem KS.put {w W : World} {r p0 : Nat} {a : Option Addr} {c : Nat} {b : List Nat} {q g n k : Nat} {A : List K} (h : KS w W r a c b q g n A) (h0 : IsReader w r a c b p0 0) (x y : Int) (hk : A.length = k) (hn : k < n) :
    KS w ((W.setCell ⟨g, k * 2, none⟩ (.int .i64 x)).setCell ⟨g, k * 2 + 1, none⟩ (.int .i64 y)) r a c b q g n (A ++ [(x, y)]) := by
  have hgt := h.gt
  refine ⟨(h.rd.setNew h0 g (k * 2) _ (by omega)).setNew h0 g (k * 2 + 1) _ (by omega), ?_, ?_, h.gt, h.rlt⟩
  · rw [heap_setCell_other _ ⟨g, k * 2 + 1, none⟩ w.heap.size _ (by show w.heap.size ≠ g; omega), heap_setCell_other W ⟨g, k * 2, none⟩ w.heap.size _ (by show w.heap.size ≠ g; omega)]
    exact h.box
  · have := h.row.set k x y (by simp [hk]; omega)
    rw [setK hk hn] at this
    exact this
theorem KS.kept {w W W1 : World} {r : Nat} {a : Option Addr} {c : Nat} {b : List Nat} {q g n : Nat} {A : List K} (h : KS w W r a c b q g n A) (hb : Below W.heap.size W W1) : KS w W1 r a c b q g n A :=
  ⟨h.rd.kept hb, (hb.block _ (Array.getElem?_eq_some_iff.1 h.box).1).trans h.box, h.row.same (hb.block _ h.row.lt), h.gt, h.rlt⟩

set_option maxRecDepth 100000 in
set_option maxHeartbeats 2000000 in
theorem set_r (w : World) (r : Nat) (a : Option Addr) (c : Nat) (b : List Nat) (p most : Nat) (h : IsReader w r a c b p 0) (hmo : most ≤ 1000) :
    Calls Try.prog 82 #[rdv r, .int .u64 (most : Int)] w fun e' w' => RdPost w r a c b (setR b most p) (OwnKs w) e' w' := by
  have H0 : Hid (IsReader w r a c b p 0) := h
  have HR : Hid (Reads w r a c b p 0 (w.alloc (.cells #[.pointer (some ⟨r, 0, none⟩)] 84))) := Reads.alloc ⟨h, World.grownBy.refl _ _⟩ _
  have HB0 : Hid ((w.alloc (.cells #[.pointer (some ⟨r, 0, none⟩)] 84)).heap[w.heap.size]? = some (.cells #[.pointer (some ⟨r, 0, none⟩)] 84 (0, 0))) := heap_alloc_new _ _ rfl
  have HLt : Hid (r < w.heap.size) := h.lt
  have HA : Hid (setR b most p = match upR b most p with | .ok (n, q) => keysR b n [] q | .error x => .error x) := rfl
  clear h
  generalize setR b most p = TT at *
  go_enter Try.func82, Try.ntmps82
  go_upto_region 1 with fail
  generalize w.alloc (.cells #[.pointer (some ⟨r, 0, none⟩)] 84) = W0 at *
  have k0 : W0.cell? ⟨w.heap.size, 0, none⟩ = some (.pointer (some ⟨r, 0, none⟩)) := by simp [World.cell?, HB0.out]
  cases hu : upR b most p with
  | error x =>
    obtain ⟨q, x⟩ := x
    have HT : Hid (TT = .error (q, x)) := by rw [HA.out, hu]; rfl
    have HU : Hid (upR b most p = .error (q, x)) := hu
    clear hu HA
    go_wp2_with fail
    refine (upto_bad W0 r a c b p most q x HR.out.1 HU.out).mono ?_
    rintro e1 w1 ⟨rfl, hg1⟩
    have HF : Hid (RdPost w r a c b TT (OwnKs w) (.panicked (flt q x)) w1) := RdPost.fails HT.out (grown_trans' HR.out.2 hg1)
    clear hg1
    go_wp2
    exact ⟨rfl, HF.out⟩
  | ok x =>
    obtain ⟨n, q⟩ := x
    have HU : Hid (upR b most p = .ok (n, q)) := hu
    have HT : Hid (keysR b n [] q = TT) := by rw [HA.out, hu]; rfl
    clear hu HA
    go_wp2_with fail
    refine (upto_ok W0 r a c b p most n q HR.out.1 hmo HU.out).mono ?_
    rintro e1 w1 ⟨rfl, hr1, hn⟩
    have HB1 : Hid (w1.heap[w.heap.size]? = some (.cells #[.pointer (some ⟨r, 0, none⟩)] 84 (0, 0))) := (block_reads hr1 (Array.getElem?_eq_some_iff.1 HB0.out).1 (by have := HLt.out; omega)).trans HB0.out
    have HR1 : Hid (Reads w r a c b q 0 w1) := HR.out.trans hr1
    have hmk := make_keys n (n : Int) rfl (by omega)
    clear hr1 HR HB0 k0
    have HS0 : Hid (KS w (w1.alloc (.cells (cks (List.replicate n (0, 0))).toArray 78)) r a c b q w1.heap.size n []) := ⟨HR1.out.alloc _, (heap_alloc_old _ _ (Array.getElem?_eq_some_iff.1 HB1.out).1).trans HB1.out, by rw [List.nil_append, List.length_nil, Nat.sub_zero]; exact heap_alloc_new _ _ rfl, (Array.getElem?_eq_some_iff.1 HB1.out).1, HLt.out⟩
    go_upto_region 2 with fail
    generalize w1.alloc (.cells (cks (List.replicate n (0, 0))).toArray 78) = W1 at *
    generalize w1.heap.size = g at *
    clear hmk HR1 HB1
    go_wp2_with fail
    go_loopw [14] (fun x wr => ∃ (k q : Nat) (A : List K), k ≤ n ∧ x = .int .i64 (k : Int) ∧ A.length = k ∧ Hid (KS w wr r a c b q g n A) ∧ Hid (keysR b (n - k) A q = TT)) (fun x _ => n - (intOf x).toNat)
    case atStart => exact ⟨0, q, [], Nat.zero_le _, rfl, rfl, HS0, HT⟩
    case round =>
      clear HS0 HT HU q
      obtain ⟨k, q, A, hk, rfl, hA, HS, HT⟩ := hrel
      by_cases hlt : k < n
      · have k0 := HS.out.cell
        have HT2 : Hid (TT = match keyR b q with | .error x => .error x | .ok (z, q1) => if A ≠ [] ∧ lt (kd A (A.length - 1)) z = false then .error (q, 65) else keysR b (n - (k + 1)) (A ++ [z]) q1) := by
          rw [← HT.out, show n - k = (n - (k + 1)) + 1 by omega]; rfl
        clear HT
        go_wp2_with fail
        refine (rAt_any wr r a c b q 0 HS.out.rd.1).mono ?_
        rintro e2 w2 ⟨rfl, hw2⟩
        have hw2' := hw2.symm
        subst hw2'
        clear hw2
        by_cases hq : q + 10 ≤ b.length
        case neg =>
          have HT : Hid (TT = .error (q, 10)) := by rw [HT2.out]; unfold keyR; rw [if_neg hq]; rfl
          have HQ : Hid (¬ q + 10 ≤ b.length) := hq
          clear HT2 hq
          go_wp2_with fail
          refine (key_bad wr r a c b q HS.out.rd.1 HQ.out).mono ?_
          rintro e3 w3 ⟨rfl, hg3⟩
          have HF : Hid (RdPost w r a c b TT (OwnKs w) (.panicked (flt q 10)) w3) := RdPost.fails HT.out (grown_trans' HS.out.rd.2 hg3)
          clear hg3 k0
          go_wp2
          exact ⟨rfl, HF.out⟩
        case pos =>
          obtain ⟨z, hz⟩ : ∃ z, z = fromK ((b.drop q).take 10) := ⟨_, rfl⟩
          have HT3 : Hid (TT = if A ≠ [] ∧ lt (kd A (A.length - 1)) z = false then .error (q, 65) else keysR b (n - (k + 1)) (A ++ [z]) (q + 10)) := by rw [HT2.out]; unfold keyR; rw [if_pos hq, hz]; rfl
          have HQ : Hid (q + 10 ≤ b.length) := hq
          have HZ : Hid (fromK ((b.drop q).take 10) = z) := hz.symm
          clear HT2 hq hz
          go_wp2_with fail
          refine (key_ok wr r a c b q HS.out.rd.1 HQ.out).mono ?_
          rintro e3 w3 ⟨rfl, hr3⟩
          rw [HZ.out]
          have HS3 : Hid (KS w w3 r a c b (q + 10) g n A) := HS.out.step hr3
          clear hr3 k0 HS HZ
          obtain ⟨z1, z2⟩ := z
          obtain ⟨e1, e2⟩ := HS3.out.row.cell k (by simp [hA]; omega)
          have f1 := HS3.out.row.frozen (k * 2)
          have f2 := HS3.out.row.frozen (k * 2 + 1)
          have HS4 : Hid (KS w ((w3.setCell ⟨g, k * 2, none⟩ (.int .i64 z1)).setCell ⟨g, k * 2 + 1, none⟩ (.int .i64 z2)) r a c b (q + 10) g n (A ++ [(z1, z2)])) := HS3.out.put H0.out z1 z2 hA hlt
          go_upto_region 7 with fail
          generalize (w3.setCell ⟨g, k * 2, none⟩ (.int .i64 z1)).setCell ⟨g, k * 2 + 1, none⟩ (.int .i64 z2) = W4 at *
          clear e1 e2 f1 f2 HS3
          have mx := mixed
          by_cases hk0 : k = 0
          · have HT : Hid (keysR b (n - (k + 1)) (A ++ [(z1, z2)]) (q + 10) = TT) := by
              have e : A = [] := List.eq_nil_of_length_eq_zero (by omega)
              rw [HT3.out, if_neg (by rw [e]; simp)]; rfl
            have hd0 : decide ((0 : Int) < (k : Int)) = false := by simp; omega
            have hd1 : decide (0 < k) = false := by simp; omega
            have HCm : Hid (∀ w, Calls Try.prog 73 #[.agg #[.int .i64 z1, .int .i64 z2], .agg #[.int .i64 z1, .int .i64 z2]] w fun e w' => e = .returned (.int .i64 (cmp (z1, z2) (z1, z2))) ∧ ∃ q os, w' = grow (w.drewN q) os) := fun w => compare_any w z1 z2 z1 z2
            clear hk0 HT3
            refine wp_region_quiet_grown mx (by kernel_rfl) ?_
            repeat (go_big_quiet_step ((go_at_call 73; exact Calls.grown_of (HCm.out _))))
            refine wpQuiet_nil ?_
            intro _ hw'
            obtain ⟨⟨nq, osq⟩, hw''⟩ := hw'
            subst hw''
            have HS5 : Hid (KS w (grow (W4.drewN nq) osq) r a c b (q + 10) g n (A ++ [(z1, z2)])) := HS4.out.kept (Grew.below ⟨_, _, rfl⟩)
            generalize grow (W4.drewN nq) osq = W5 at *
            clear HS4 hd0 hd1
            go_wp2
            go_roundw
            case rel => exact ⟨k + 1, q + 10, A ++ [(z1, z2)], by omega, by go_num, by simp [hA], HS5, HT⟩
            case measure => simp [intOf]; omega
          · have hkp : (0 : Int) < (k : Int) := by omega
            have hd0 : decide ((0 : Int) < (k : Int)) = true := by simpa using hkp
            have hd1 : decide (0 < k) = true := by simp; omega
            have hkm : (k : Int) - 1 = ((k - 1 : Nat) : Int) := by omega
            have hkn : (k : Int) < (n : Int) := by omega
            have hkn1 : ((k - 1 : Nat) : Int) < (n : Int) := by omega
            have hk1 : k - 1 < n := by omega
            obtain ⟨p1, p2⟩ := HS4.out.row.cell (k - 1) (by rw [List.length_append, List.length_append, List.length_replicate]; simp only [List.length_singleton]; omega)
            obtain ⟨p3, p4⟩ := HS4.out.row.cell k (by rw [List.length_append, List.length_append, List.length_replicate]; simp only [List.length_singleton]; omega)
            have ek1 : kd (A ++ [(z1, z2)] ++ List.replicate (n - (A ++ [(z1, z2)]).length) (0, 0)) (k - 1) = kd A (k - 1) := by
              rw [kd_left _ _ _ (by simp <;> omega), kd_left _ _ _ (by omega)]
            have ek2 : kd (A ++ [(z1, z2)] ++ List.replicate (n - (A ++ [(z1, z2)]).length) (0, 0)) k = (z1, z2) := by
              rw [kd_left _ _ _ (by simp <;> omega)]
              have := kd_right A [(z1, z2)] 0 (by simp)
              rw [hA] at this; exact this
            rw [ek1] at p1 p2
            rw [ek2] at p3 p4
            have HTc : Hid (TT = if lt (kd A (k - 1)) (z1, z2) = false then .error (q, 65) else keysR b (n - (k + 1)) (A ++ [(z1, z2)]) (q + 10)) := by
              rw [HT3.out, hA]
              have hne : A ≠ [] := fun e => hk0 (by rw [e] at hA; exact hA.symm)
              by_cases hl : lt (kd A (k - 1)) (z1, z2) = false
              · rw [if_pos ⟨hne, hl⟩, if_pos hl]; rfl
              · rw [if_neg (fun h => hl h.2), if_neg hl]; rfl
            clear HT3 ek1 ek2
            generalize kd A (k - 1) = pk at *
            obtain ⟨u, s⟩ := pk
            simp only at p1 p2 p3 p4
            have d1 : ∀ n os, (grow (W4.drewN n) os).cell? ⟨g, (k - 1) * 2, none⟩ = some (.int .i64 u) := fun n os => Grew.cell ⟨n, os, rfl⟩ p1
            have d2 : ∀ n os, (grow (W4.drewN n) os).cell? ⟨g, (k - 1) * 2 + 1, none⟩ = some (.int .i64 s) := fun n os => Grew.cell ⟨n, os, rfl⟩ p2
            have d3 : ∀ n os, (grow (W4.drewN n) os).cell? ⟨g, k * 2, none⟩ = some (.int .i64 z1) := fun n os => Grew.cell ⟨n, os, rfl⟩ p3
            have d4 : ∀ n os, (grow (W4.drewN n) os).cell? ⟨g, k * 2 + 1, none⟩ = some (.int .i64 z2) := fun n os => Grew.cell ⟨n, os, rfl⟩ p4
            clear p1 p2 p3 p4 hk0
            cases hlu : lt (u, s) (z1, z2) with
            | false =>
              have HT : Hid (TT = .error (q, 65)) := by rw [HTc.out, if_pos hlu]; rfl
              have hcv : ∃ c : Int, cmp (u, s) (z1, z2) = c ∧ 0 ≤ c := ⟨_, rfl, by have := cmp_neg (u, s) (z1, z2); rw [hlu] at this; simp at this; exact this⟩
              obtain ⟨cv, hcv, hcp⟩ := hcv
              have hcd : decide (0 ≤ cv) = true := by simpa using hcp
              have HCm : Hid (∀ w, Calls Try.prog 73 #[.agg #[.int .i64 u, .int .i64 s], .agg #[.int .i64 z1, .int .i64 z2]] w fun e w' => e = .returned (.int .i64 cv) ∧ ∃ q os, w' = grow (w.drewN q) os) := fun w => by
                have h := compare_any w u s z1 z2
                rwa [hcv] at h
              clear HTc hlu hcv
              refine wp_region_quiet_grown mx (by kernel_rfl) ?_
              repeat (go_big_quiet_step ((go_at_call 73; exact Calls.grown_of (HCm.out _))))
              refine wpQuiet_nil ?_
              intro _ hw'
              obtain ⟨⟨nq, osq⟩, hw''⟩ := hw'
              subst hw''
              have HF : Hid (RdPost w r a c b TT (OwnKs w) (.panicked (flt q 65)) (grow (W4.drewN nq) osq)) := RdPost.fails HT.out (HS4.out.kept (Grew.below ⟨_, _, rfl⟩)).rd.2
              generalize grow (W4.drewN nq) osq = W5 at *
              clear d1 d2 d3 d4 HS4
              go_wp2
              exact ⟨rfl, HF.out⟩
            | true =>
              have HT : Hid (keysR b (n - (k + 1)) (A ++ [(z1, z2)]) (q + 10) = TT) := by rw [HTc.out, if_neg (by rw [hlu]; simp)]; rfl
              have hcv : cmp (u, s) (z1, z2) = -1 := cmp_lt hlu
              have HCm : Hid (∀ w, Calls Try.prog 73 #[.agg #[.int .i64 u, .int .i64 s], .agg #[.int .i64 z1, .int .i64 z2]] w fun e w' => e = .returned (.int .i64 (-1)) ∧ ∃ q os, w' = grow (w.drewN q) os) := fun w => by
                have h := compare_any w u s z1 z2
                rwa [hcv] at h
              clear HTc hlu hcv
              refine wp_region_quiet_grown mx (by kernel_rfl) ?_
              repeat (go_big_quiet_step ((go_at_call 73; exact Calls.grown_of (HCm.out _))))
              refine wpQuiet_nil ?_
              intro _ hw'
              obtain ⟨⟨nq, osq⟩, hw''⟩ := hw'
              subst hw''
              have HS5 : Hid (KS w (grow (W4.drewN nq) osq) r a c b (q + 10) g n (A ++ [(z1, z2)])) := HS4.out.kept (Grew.below ⟨_, _, rfl⟩)
              generalize grow (W4.drewN nq) osq = W5 at *
              clear HS4 d1 d2 d3 d4
              go_wp2
              go_roundw
              case rel => exact ⟨k + 1, q + 10, A ++ [(z1, z2)], by omega, by go_num, by simp [hA], HS5, HT⟩
              case measure => simp [intOf]; omega
      · obtain rfl : k = n := by omega
        have HF : Hid (RdPost w r a c b TT (OwnKs w) (.returned (.slice (some ⟨g, 0, none⟩) k k)) wr) := by
          have h1 := HT.out
          rw [Nat.sub_self] at h1
          refine RdPost.good (x := A) (q := q) h1.symm HS.out.rd ⟨g, by rw [hA], ?_, by have := HS.out.gt; omega⟩
          have h2 := HS.out.row
          rw [hA, Nat.sub_self, List.replicate_zero, List.append_nil] at h2
          exact h2
        clear HS HT
        go_wp2
        go_ret
        exact HF.out
end Go.Proofs.Ytciogmenoighoaa.Kk
/-
  THE WALK OF tx.
-/
namespace Go.Proofs.Ytciogmenoighoaa.Kk
open Go.RowKit Go.Sort

/-- a transaction's lists, in rows that a call has made -/
def OwnTx (w0 : World) (t : Tp) (v : Value) (w' : World) : Prop := ∃ ga gr gw, v = .agg #[.int .i64 t.proc, .slice (some ⟨ga, 0, none⟩) t.args.length t.args.length, .slice (some ⟨gr, 0, none⟩) t.reads.length t.reads.length, .slice (some ⟨gw, 0, none⟩) t.writes.length t.writes.length] ∧
  R64 w' ga t.args ∧ RK w' gr t.reads ∧ RK w' gw t.writes ∧ w0.heap.size ≤ ga ∧ ga < gr ∧ gr < gw
abbrev zTx : Array Value := #[.int .i64 0, .slice none 0 0, .slice none 0 0, .slice none 0 0]
structure TS (w W : World) (r : Nat) (a : Option Addr) (c : Nat) (b : List Nat) (q : Nat) (x0 x1 x2 x3 : Value) : Prop where
  rd : Reads w r a c b q 0 W
  box : W.heap[w.heap.size]? = some (.cells #[.pointer (some ⟨r, 0, none⟩)] 84 (0, 0))
  res : W.heap[w.heap.size + 1]? = some (.cells zTx 58 (0, 0))
  loc : W.heap[w.heap.size + 1 + 1]? = some (.cells #[x0, x1, x2, x3] 58 (0, 0))
  rlt : r < w.heap.size
section
variable {w W W1 : World} {r : Nat} {a : Option Addr} {c : Nat} {b : List Nat} {q q1 : Nat} {x0 x1 x2 x3 : Value}
theorem TS.cell (h : TS w W r a c b q x0 x1 x2 x3) : W.cell? ⟨w.heap.size, 0, none⟩ = some (.pointer (some ⟨r, 0, none⟩)) := by simp [World.cell?, h.box]
theorem TS.cells (h : TS w W r a c b q x0 x1 x2 x3) : W.cell? ⟨w.heap.size + 1 + 1, 0, none⟩ = some x0 ∧ W.cell? ⟨w.heap.size + 1 + 1, 1, none⟩ = some x1 ∧ W.cell? ⟨w.heap.size + 1 + 1, 2, none⟩ = some x2 ∧ W.cell? ⟨w.heap.size + 1 + 1, 3, none⟩ = some x3 := by
  refine ⟨?_, ?_, ?_, ?_⟩ <;> simp [World.cell?, h.loc]
theorem TS.frozen (h : TS w W r a c b q x0 x1 x2 x3) (j : Nat) : W.frozen? ⟨w.heap.size + 1 + 1, j, none⟩ = false := frozen_of_row W _ j _ _ h.loc
theorem TS.size (h : TS w W r a c b q x0 x1 x2 x3) : w.heap.size + 1 + 1 < W.heap.size := (Array.getElem?_eq_some_iff.1 h.loc).1
theorem TS.step (h : TS w W r a c b q x0 x1 x2 x3) (hr : Reads W r a c b q1 0 W1) : TS w W1 r a c b q1 x0 x1 x2 x3 := by
  have hrl := h.rlt
  have hs := h.size
  exact ⟨h.rd.trans hr, (block_reads hr (by omega) (by omega)).trans h.box, (block_reads hr (by omega) (by omega)).trans h.res, (block_reads hr (by omega) (by omega)).trans h.loc, h.rlt⟩
theorem TS.set {p0 : Nat} (h : TS w W r a c b q x0 x1 x2 x3) (h0 : IsReader w r a c b p0 0) (j : Nat) (v y0 y1 y2 y3 : Value) (hy : (#[x0, x1, x2, x3] : Array Value).setIfInBounds j v = #[y0, y1, y2, y3]) : TS w (W.setCell ⟨w.heap.size + 1 + 1, j, none⟩ v) r a c b q y0 y1 y2 y3 := by
  refine ⟨h.rd.setNew h0 _ j v (by omega), ?_, ?_, ?_, h.rlt⟩
  · rw [heap_setCell_other W ⟨w.heap.size + 1 + 1, j, none⟩ w.heap.size v (by show w.heap.size ≠ w.heap.size + 1 + 1; omega)]; exact h.box
  · rw [heap_setCell_other W ⟨w.heap.size + 1 + 1, j, none⟩ (w.heap.size + 1) v (by show w.heap.size + 1 ≠ w.heap.size + 1 + 1; omega)]; exact h.res
  · have := heap_setCell_same W (w.heap.size + 1 + 1) j _ _ v h.loc
    rw [hy] at this; exact this
end
theorem ldTx (W : World) (G : Nat) (h : W.heap[G]? = some (.cells zTx 58 (0, 0))) (x0 x1 x2 x3 : Value) (h0 : ∃ z, x0 = .int .i64 z) (h1 : ∃ s n c, x1 = .slice s n c) (h2 : ∃ s n c, x2 = .slice s n c) (h3 : ∃ s n c, x3 = .slice s n c) :
    (loadVar 58 ⟨G, 0, none⟩).run Try.prog ((((W.setCell ⟨G, 0, none⟩ x0).setCell ⟨G, 1, none⟩ x1).setCell ⟨G, 2, none⟩ x2).setCell ⟨G, 3, none⟩ x3) = .ok (.agg #[x0, x1, x2, x3]) ((((W.setCell ⟨G, 0, none⟩ x0).setCell ⟨G, 1, none⟩ x1).setCell ⟨G, 2, none⟩ x2).setCell ⟨G, 3, none⟩ x3) := by
  obtain ⟨z, rfl⟩ := h0
  obtain ⟨s1, n1, c1, rfl⟩ := h1
  obtain ⟨s2, n2, c2, rfl⟩ := h2
  obtain ⟨s3, n3, c3, rfl⟩ := h3
  have g1 := heap_setCell_same W G 0 _ _ (.int .i64 z) h
  have g2 := heap_setCell_same _ G 1 _ _ (.slice s1 n1 c1) g1
  have g3 := heap_setCell_same _ G 2 _ _ (.slice s2 n2 c2) g2
  have g4 := heap_setCell_same _ G 3 _ _ (.slice s3 n3 c3) g3
  refine run_loadVar_mid (P := Try.prog) _ G 0 58 [.int .i64 z, .slice s1 n1 c1, .slice s2 n2 c2, .slice s3 n3 c3] _ ?_ Try.underlying58 rfl (by kernel_rfl)
  intro j v hv
  simp only [World.cell?, g4, Nat.zero_add]
  simpa using hv

set_option maxRecDepth 100000 in
set_option maxHeartbeats 2000000 in
theorem tx_r (w : World) (r : Nat) (a : Option Addr) (c : Nat) (b : List Nat) (p : Nat) (h : IsReader w r a c b p 0) :
    Calls Try.prog 65 #[rdv r] w fun e' w' => RdPost w r a c b (txR b p) (OwnTx w) e' w' := by
  have H0 : Hid (IsReader w r a c b p 0) := h
  have HS0 : Hid (TS w (((w.alloc (.cells #[.pointer (some ⟨r, 0, none⟩)] 84)).alloc (.cells zTx 58)).alloc (.cells zTx 58)) r a c b p (.int .i64 0) (.slice none 0 0) (.slice none 0 0) (.slice none 0 0)) :=
    ⟨Reads.alloc (Reads.alloc (Reads.alloc ⟨h, World.grownBy.refl _ _⟩ _) _) _, (heap_alloc_old _ _ (by simp; omega)).trans ((heap_alloc_old _ _ (by simp)).trans (heap_alloc_new _ _ rfl)), (heap_alloc_old _ _ (by simp)).trans (heap_alloc_new _ _ (by simp)), heap_alloc_new _ _ (by simp), h.lt⟩
  have HA : Hid (txR b p = match upR b 63 p with
    | .error x => .error x
    | .ok (n, p1) => match argR b p1 with
      | .error x => .error x
      | .ok (A, p2) => match setR b 16 p2 with
        | .error x => .error x
        | .ok (R, p3) => match setR b 16 p3 with
          | .error x => .error x
          | .ok (V, p4) => .ok (⟨n, A, R, V⟩, p4)) := rfl
  clear h
  generalize txR b p = TT at *
  go_enter Try.func65, Try.ntmps65
  go_upto_region 2 with fail
  generalize ((w.alloc (.cells #[.pointer (some ⟨r, 0, none⟩)] 84)).alloc (.cells zTx 58)).alloc (.cells zTx 58) = W0 at *
  have k0 := HS0.out.cell
  cases hu : upR b 63 p with
  | error x =>
    obtain ⟨q, x⟩ := x
    have HT : Hid (TT = .error (q, x)) := by rw [HA.out, hu]; rfl
    have HU : Hid (upR b 63 p = .error (q, x)) := hu
    clear hu HA
    go_wp2_with fail
    refine (upto_bad W0 r a c b p 63 q x HS0.out.rd.1 HU.out).mono ?_
    rintro e1 w1 ⟨rfl, hg1⟩
    have HF : Hid (RdPost w r a c b TT (OwnTx w) (.panicked (flt q x)) w1) := RdPost.fails HT.out (grown_trans' HS0.out.rd.2 hg1)
    clear hg1
    go_wp2
    exact ⟨rfl, HF.out⟩
  | ok x =>
    obtain ⟨n, q⟩ := x
    have HU : Hid (upR b 63 p = .ok (n, q)) := hu
    rw [hu] at HA
    simp only at HA
    clear hu
    go_wp2_with fail
    refine (upto_ok W0 r a c b p 63 n q HS0.out.rd.1 (by omega) HU.out).mono ?_
    rintro e1 w1 ⟨rfl, hr1, _⟩
    have HS1 : Hid (TS w w1 r a c b q (.int .i64 0) (.slice none 0 0) (.slice none 0 0) (.slice none 0 0)) := HS0.out.step hr1
    clear hr1 k0 HS0 HU
    obtain ⟨c0, _, _, _⟩ := HS1.out.cells
    have f0 := HS1.out.frozen 0
    have HS2 : Hid (TS w (w1.setCell ⟨w.heap.size + 1 + 1, 0, none⟩ (.int .i64 (n : Int))) r a c b q (.int .i64 (n : Int)) (.slice none 0 0) (.slice none 0 0) (.slice none 0 0)) := HS1.out.set H0.out 0 _ _ _ _ _ rfl
    go_upto_region 3 with fail
    generalize w1.setCell ⟨w.heap.size + 1 + 1, 0, none⟩ (.int .i64 (n : Int)) = W2 at *
    clear c0 f0 HS1
    have k2 := HS2.out.cell
    have HC : Hid (Calls Try.prog 81 #[rdv r] W2 fun e' w' => RdPost W2 r a c b (argR b q) (Own64 W2) e' w') := args_r W2 r a c b q HS2.out.rd.1
    cases hu : argR b q with
    | error x =>
      obtain ⟨qx, x⟩ := x
      have HT : Hid (TT = .error (qx, x)) := by rw [HA.out, hu]; rfl
      rw [hu] at HC
      clear hu HA
      go_wp2_with fail
      refine HC.out.mono ?_
      rintro e1 w3 ⟨rfl, hg1⟩
      have HF : Hid (RdPost w r a c b TT (OwnTx w) (.panicked (flt qx x)) w3) := RdPost.fails HT.out (grown_trans' HS2.out.rd.2 hg1)
      clear hg1
      go_wp2
      exact ⟨rfl, HF.out⟩
    | ok x =>
      obtain ⟨A, q2⟩ := x
      rw [hu] at HC HA
      simp only at HA
      clear hu
      go_wp2_with fail
      refine HC.out.mono ?_
      rintro e1 w3 ⟨v, rfl, hr, ga, rfl, hrow, hge⟩
      have HS3 : Hid (TS w w3 r a c b q2 (.int .i64 (n : Int)) (.slice none 0 0) (.slice none 0 0) (.slice none 0 0)) := HS2.out.step hr
      have hsz := HS2.out.size
      have hrl := HS2.out.rlt
      have HL2 : Hid (R64 (w3.setCell ⟨w.heap.size + 1 + 1, 1, none⟩ (.slice (some ⟨ga, 0, none⟩) A.length A.length)) ga A ∧ w.heap.size + 1 + 1 < ga) := ⟨hrow.same (heap_setCell_other w3 ⟨w.heap.size + 1 + 1, 1, none⟩ ga _ (by show ga ≠ w.heap.size + 1 + 1; omega)), by omega⟩
      have HS4 : Hid (TS w (w3.setCell ⟨w.heap.size + 1 + 1, 1, none⟩ (.slice (some ⟨ga, 0, none⟩) A.length A.length)) r a c b q2 (.int .i64 (n : Int)) (.slice (some ⟨ga, 0, none⟩) A.length A.length) (.slice none 0 0) (.slice none 0 0)) := HS3.out.set H0.out 1 _ _ _ _ _ rfl
      obtain ⟨c0, c1, c2, c3⟩ := HS3.out.cells
      have f0 := HS3.out.frozen 1
      clear hr hrow hsz hrl hge HC k2 HS3 HS2
      go_upto_region 4 with fail
      generalize (w3.setCell ⟨w.heap.size + 1 + 1, 1, none⟩ (.slice (some ⟨ga, 0, none⟩) A.length A.length)) = W4 at *
      clear c0 c1 c2 c3 f0
      have k4 := HS4.out.cell
      have HC : Hid (Calls Try.prog 82 #[rdv r, .int .u64 ((16 : Nat) : Int)] W4 fun e' w' => RdPost W4 r a c b (setR b 16 q2) (OwnKs W4) e' w') := set_r W4 r a c b q2 16 HS4.out.rd.1 (by omega)
      cases hu : setR b 16 q2 with
      | error x =>
        obtain ⟨qx, x⟩ := x
        have HT : Hid (TT = .error (qx, x)) := by rw [HA.out, hu]; rfl
        rw [hu] at HC
        clear hu HA
        go_wp2_with fail
        refine HC.out.mono ?_
        rintro e1 w5 ⟨rfl, hg1⟩
        have HF : Hid (RdPost w r a c b TT (OwnTx w) (.panicked (flt qx x)) w5) := RdPost.fails HT.out (grown_trans' HS4.out.rd.2 hg1)
        clear hg1
        go_wp2
        exact ⟨rfl, HF.out⟩
      | ok x =>
        obtain ⟨R, q3⟩ := x
        rw [hu] at HC HA
        simp only at HA
        clear hu
        go_wp2_with fail
        refine HC.out.mono ?_
        rintro e1 w5 ⟨v, rfl, hr, gr, rfl, hrow, hge⟩
        have HS5 : Hid (TS w w5 r a c b q3 (.int .i64 (n : Int)) (.slice (some ⟨ga, 0, none⟩) A.length A.length) (.slice none 0 0) (.slice none 0 0)) := HS4.out.step hr
        have hsz := HS4.out.size
        have hrl := HS4.out.rlt
        obtain ⟨oA, og⟩ := HL2.out
        have hla := oA.lt
        have HL4 : Hid (R64 (w5.setCell ⟨w.heap.size + 1 + 1, 2, none⟩ (.slice (some ⟨gr, 0, none⟩) R.length R.length)) ga A ∧ RK (w5.setCell ⟨w.heap.size + 1 + 1, 2, none⟩ (.slice (some ⟨gr, 0, none⟩) R.length R.length)) gr R ∧ w.heap.size + 1 + 1 < ga ∧ ga < gr) := ⟨oA.same ((heap_setCell_other w5 ⟨w.heap.size + 1 + 1, 2, none⟩ ga _ (by show ga ≠ w.heap.size + 1 + 1; omega)).trans (block_reads hr hla (by omega))), hrow.same (heap_setCell_other w5 ⟨w.heap.size + 1 + 1, 2, none⟩ gr _ (by show gr ≠ w.heap.size + 1 + 1; omega)), by omega, by omega⟩
        have HS6 : Hid (TS w (w5.setCell ⟨w.heap.size + 1 + 1, 2, none⟩ (.slice (some ⟨gr, 0, none⟩) R.length R.length)) r a c b q3 (.int .i64 (n : Int)) (.slice (some ⟨ga, 0, none⟩) A.length A.length) (.slice (some ⟨gr, 0, none⟩) R.length R.length) (.slice none 0 0)) := HS5.out.set H0.out 2 _ _ _ _ _ rfl
        obtain ⟨c0, c1, c2, c3⟩ := HS5.out.cells
        have f0 := HS5.out.frozen 2
        clear hr hrow hsz hrl hge HC k4 HS5 HS4 oA og hla HL2
        go_upto_region 5 with fail
        generalize (w5.setCell ⟨w.heap.size + 1 + 1, 2, none⟩ (.slice (some ⟨gr, 0, none⟩) R.length R.length)) = W6 at *
        clear c0 c1 c2 c3 f0
        have k6 := HS6.out.cell
        have HC : Hid (Calls Try.prog 82 #[rdv r, .int .u64 ((16 : Nat) : Int)] W6 fun e' w' => RdPost W6 r a c b (setR b 16 q3) (OwnKs W6) e' w') := set_r W6 r a c b q3 16 HS6.out.rd.1 (by omega)
        cases hu : setR b 16 q3 with
        | error x =>
          obtain ⟨qx, x⟩ := x
          have HT : Hid (TT = .error (qx, x)) := by rw [HA.out, hu]; rfl
          rw [hu] at HC
          clear hu HA
          go_wp2_with fail
          refine HC.out.mono ?_
          rintro e1 w7 ⟨rfl, hg1⟩
          have HF : Hid (RdPost w r a c b TT (OwnTx w) (.panicked (flt qx x)) w7) := RdPost.fails HT.out (grown_trans' HS6.out.rd.2 hg1)
          clear hg1
          go_wp2
          exact ⟨rfl, HF.out⟩
        | ok x =>
          obtain ⟨V, q4⟩ := x
          rw [hu] at HC HA
          simp only at HA
          clear hu
          go_wp2_with fail
          refine HC.out.mono ?_
          rintro e1 w7 ⟨v, rfl, hr, gw, rfl, hrow, hge⟩
          have HS7 : Hid (TS w w7 r a c b q4 (.int .i64 (n : Int)) (.slice (some ⟨ga, 0, none⟩) A.length A.length) (.slice (some ⟨gr, 0, none⟩) R.length R.length) (.slice none 0 0)) := HS6.out.step hr
          have hsz := HS6.out.size
          have hrl := HS6.out.rlt
          obtain ⟨oA, oR, og1, og2⟩ := HL4.out
          have hla := oA.lt
          have hlr := oR.lt
          have HL6 : Hid (R64 (w7.setCell ⟨w.heap.size + 1 + 1, 3, none⟩ (.slice (some ⟨gw, 0, none⟩) V.length V.length)) ga A ∧ RK (w7.setCell ⟨w.heap.size + 1 + 1, 3, none⟩ (.slice (some ⟨gw, 0, none⟩) V.length V.length)) gr R ∧ RK (w7.setCell ⟨w.heap.size + 1 + 1, 3, none⟩ (.slice (some ⟨gw, 0, none⟩) V.length V.length)) gw V ∧ w.heap.size + 1 + 1 < ga ∧ ga < gr ∧ gr < gw) := ⟨oA.same ((heap_setCell_other w7 ⟨w.heap.size + 1 + 1, 3, none⟩ ga _ (by show ga ≠ w.heap.size + 1 + 1; omega)).trans (block_reads hr hla (by omega))), oR.same ((heap_setCell_other w7 ⟨w.heap.size + 1 + 1, 3, none⟩ gr _ (by show gr ≠ w.heap.size + 1 + 1; omega)).trans (block_reads hr hlr (by omega))), hrow.same (heap_setCell_other w7 ⟨w.heap.size + 1 + 1, 3, none⟩ gw _ (by show gw ≠ w.heap.size + 1 + 1; omega)), by omega, by omega, by omega⟩
          have HS8 : Hid (TS w (w7.setCell ⟨w.heap.size + 1 + 1, 3, none⟩ (.slice (some ⟨gw, 0, none⟩) V.length V.length)) r a c b q4 (.int .i64 (n : Int)) (.slice (some ⟨ga, 0, none⟩) A.length A.length) (.slice (some ⟨gr, 0, none⟩) R.length R.length) (.slice (some ⟨gw, 0, none⟩) V.length V.length)) := HS7.out.set H0.out 3 _ _ _ _ _ rfl
          obtain ⟨c0, c1, c2, c3⟩ := HS7.out.cells
          have f0 := HS7.out.frozen 3
          clear hr hrow hsz hrl hge HC k6 HS7 HS6 oA oR og1 og2 hla hlr HL4
          go_upto_region 6 with fail
          generalize (w7.setCell ⟨w.heap.size + 1 + 1, 3, none⟩ (.slice (some ⟨gw, 0, none⟩) V.length V.length)) = W8 at *
          clear c0 c1 c2 c3 f0
          obtain ⟨c0, c1, c2, c3⟩ := HS8.out.cells
          have hres := HS8.out.res
          have d0 : W8.cell? ⟨w.heap.size + 1, 0, none⟩ = some (.int .i64 0) := by simp [World.cell?, hres]
          have d1 : W8.cell? ⟨w.heap.size + 1, 1, none⟩ = some (.slice none 0 0) := by simp [World.cell?, hres]
          have d2 : W8.cell? ⟨w.heap.size + 1, 2, none⟩ = some (.slice none 0 0) := by simp [World.cell?, hres]
          have d3 : W8.cell? ⟨w.heap.size + 1, 3, none⟩ = some (.slice none 0 0) := by simp [World.cell?, hres]
          have f0 := frozen_of_row W8 (w.heap.size + 1) 0 _ _ hres
          have f1 := frozen_of_row W8 (w.heap.size + 1) 1 _ _ hres
          have f2 := frozen_of_row W8 (w.heap.size + 1) 2 _ _ hres
          have f3 := frozen_of_row W8 (w.heap.size + 1) 3 _ _ hres
          have HLd : Hid ((loadVar 58 ⟨w.heap.size + 1, 0, none⟩).run Try.prog ((((W8.setCell ⟨w.heap.size + 1, 0, none⟩ (.int .i64 (n : Int))).setCell ⟨w.heap.size + 1, 1, none⟩ (.slice (some ⟨ga, 0, none⟩) A.length A.length)).setCell ⟨w.heap.size + 1, 2, none⟩ (.slice (some ⟨gr, 0, none⟩) R.length R.length)).setCell ⟨w.heap.size + 1, 3, none⟩ (.slice (some ⟨gw, 0, none⟩) V.length V.length)) = .ok (.agg #[(.int .i64 (n : Int)), (.slice (some ⟨ga, 0, none⟩) A.length A.length), (.slice (some ⟨gr, 0, none⟩) R.length R.length), (.slice (some ⟨gw, 0, none⟩) V.length V.length)]) ((((W8.setCell ⟨w.heap.size + 1, 0, none⟩ (.int .i64 (n : Int))).setCell ⟨w.heap.size + 1, 1, none⟩ (.slice (some ⟨ga, 0, none⟩) A.length A.length)).setCell ⟨w.heap.size + 1, 2, none⟩ (.slice (some ⟨gr, 0, none⟩) R.length R.length)).setCell ⟨w.heap.size + 1, 3, none⟩ (.slice (some ⟨gw, 0, none⟩) V.length V.length))) := ldTx W8 (w.heap.size + 1) hres _ _ _ _ ⟨_, rfl⟩ ⟨_, _, _, rfl⟩ ⟨_, _, _, rfl⟩ ⟨_, _, _, rfl⟩
          have HF : Hid (RdPost w r a c b TT (OwnTx w) (.returned (.agg #[(.int .i64 (n : Int)), (.slice (some ⟨ga, 0, none⟩) A.length A.length), (.slice (some ⟨gr, 0, none⟩) R.length R.length), (.slice (some ⟨gw, 0, none⟩) V.length V.length)])) ((((W8.setCell ⟨w.heap.size + 1, 0, none⟩ (.int .i64 (n : Int))).setCell ⟨w.heap.size + 1, 1, none⟩ (.slice (some ⟨ga, 0, none⟩) A.length A.length)).setCell ⟨w.heap.size + 1, 2, none⟩ (.slice (some ⟨gr, 0, none⟩) R.length R.length)).setCell ⟨w.heap.size + 1, 3, none⟩ (.slice (some ⟨gw, 0, none⟩) V.length V.length))) := by
            have hoth : ∀ G, G ≠ w.heap.size + 1 → ((((W8.setCell ⟨w.heap.size + 1, 0, none⟩ (.int .i64 (n : Int))).setCell ⟨w.heap.size + 1, 1, none⟩ (.slice (some ⟨ga, 0, none⟩) A.length A.length)).setCell ⟨w.heap.size + 1, 2, none⟩ (.slice (some ⟨gr, 0, none⟩) R.length R.length)).setCell ⟨w.heap.size + 1, 3, none⟩ (.slice (some ⟨gw, 0, none⟩) V.length V.length)).heap[G]? = W8.heap[G]? := fun G hG => by
              rw [heap_setCell_other _ _ G _ (by exact hG), heap_setCell_other _ _ G _ (by exact hG), heap_setCell_other _ _ G _ (by exact hG), heap_setCell_other _ _ G _ (by exact hG)]
            obtain ⟨oA, oR, oV, og1, og2, og3⟩ := HL6.out
            refine RdPost.good (x := ⟨n, A, R, V⟩) (q := q4) HA.out ((((HS8.out.rd.setNew H0.out _ 0 _ (by omega)).setNew H0.out _ 1 _ (by omega)).setNew H0.out _ 2 _ (by omega)).setNew H0.out _ 3 _ (by omega)) ⟨ga, gr, gw, rfl, oA.same (hoth ga (by omega)), oR.same (hoth gr (by omega)), oV.same (hoth gw (by omega)), by omega, og2, og3⟩
          clear hres HS8 HL6 HA
          go_wp2
          refine bodyPost_ret (v := .agg #[(.int .i64 (n : Int)), (.slice (some ⟨ga, 0, none⟩) A.length A.length), (.slice (some ⟨gr, 0, none⟩) R.length R.length), (.slice (some ⟨gw, 0, none⟩) V.length V.length)]) ?_ rfl HF.out
          simp [results, Try.results65, asAddr, HLd.out]
end Go.Proofs.Ytciogmenoighoaa.Kk
/-
  THE WALK OF batch.
-/
namespace Go.Proofs.Ytciogmenoighoaa.Kk
open Go.RowKit Go.Sort

/-- a transaction that was read: its lists lie in rows of their own, between lo and hi -/
def DcT (W : World) (lo hi : Nat) (y : Bx) : Prop := ∃ ga gr gw, y = ⟨y.t, some ⟨ga, 0, none⟩, y.t.args.length, some ⟨gr, 0, none⟩, y.t.reads.length, some ⟨gw, 0, none⟩, y.t.writes.length⟩ ∧
  R64 W ga y.t.args ∧ RK W gr y.t.reads ∧ RK W gw y.t.writes ∧ lo ≤ ga ∧ ga < gr ∧ gr < gw ∧ gw < hi
theorem DcT.same {W W' : World} {lo hi : Nat} {y : Bx} (h : DcT W lo hi y) (hs : ∀ G, lo ≤ G → G < hi → G < W.heap.size → W'.heap[G]? = W.heap[G]?) : DcT W' lo hi y := by
  obtain ⟨ga, gr, gw, e, h1, h2, h3, h4, h5, h6, h7⟩ := h
  exact ⟨ga, gr, gw, e, h1.same (hs ga h4 (by omega) h1.lt), h2.same (hs gr (by omega) (by omega) h2.lt), h3.same (hs gw (by omega) h7 h3.lt), h4, h5, h6, h7⟩
/-- a batch that was read -/
structure Dcd (W : World) (base g n k : Nat) (Ts : List Tp) (Qs : List Bx) (lo : Nat → Nat) : Prop where
  row : RT W g Qs
  len : Qs.length = n
  ts : (Qs.take k).map Bx.t = Ts
  ge : base ≤ g
  one : ∀ i, i < k → DcT W (lo i) (lo (i + 1)) (bd Qs i)
  lo0 : g < lo 0
  lok : lo k ≤ W.heap.size
  mono : ∀ i, i < k → lo i ≤ lo (i + 1)
theorem Dcd.gt {W : World} {base g n k : Nat} {Ts : List Tp} {Qs : List Bx} {lo : Nat → Nat} (h : Dcd W base g n k Ts Qs lo) : ∀ i, i ≤ k → g < lo i
  | 0, _ => h.lo0
  | i + 1, hi => Nat.lt_of_lt_of_le (h.gt i (by omega)) (h.mono i (by omega))
theorem Dcd.same {W W' : World} {base g n k : Nat} {Ts : List Tp} {Qs : List Bx} {lo : Nat → Nat} (h : Dcd W base g n k Ts Qs lo) (hs : ∀ G, g ≤ G → G < W.heap.size → W'.heap[G]? = W.heap[G]?) (hz : W.heap.size ≤ W'.heap.size) : Dcd W' base g n k Ts Qs lo :=
  ⟨h.row.same (hs g (Nat.le_refl _) h.row.lt), h.len, h.ts, h.ge, fun i hi => (h.one i hi).same (fun G g1 _ g3 => hs G (by have := h.gt i (by omega); omega) g3), h.lo0, Nat.le_trans h.lok hz, h.mono⟩
theorem take_set_map (Qs : List Bx) (k : Nat) (y : Bx) (h : k < Qs.length) : ((Qs.set k y).take (k + 1)).map Bx.t = (Qs.take k).map Bx.t ++ [y.t] := by
  have hl : k < (Qs.set k y).length := by rw [List.length_set]; exact h
  rw [bd_take (Qs.set k y) k hl, bd_set_eq _ _ _ h, List.take_set_of_le (Nat.le_refl _)]
  simp
/-- one more is read and stored -/
theorem Dcd.put {W W3 : World} {base g n k : Nat} {Ts : List Tp} {Qs : List Bx} {lo : Nat → Nat} (h : Dcd W base g n k Ts Qs lo) (hk : k < n) (hs : ∀ G, g ≤ G → G < W.heap.size → W3.heap[G]? = W.heap[G]?) (hz : W.heap.size ≤ W3.heap.size) (t : Tp) (ga gr gw : Nat)
    (hA : R64 W3 ga t.args) (hR : RK W3 gr t.reads) (hW : RK W3 gw t.writes) (h1 : W.heap.size ≤ ga) (h2 : ga < gr) (h3 : gr < gw) :
    RT W3 g Qs ∧ ∃ lo', Dcd ((((W3.setCell ⟨g, k * 4, none⟩ (.int .i64 t.proc)).setCell ⟨g, k * 4 + 1, none⟩ (.slice (some ⟨ga, 0, none⟩) t.args.length t.args.length)).setCell ⟨g, k * 4 + 2, none⟩ (.slice (some ⟨gr, 0, none⟩) t.reads.length t.reads.length)).setCell ⟨g, k * 4 + 3, none⟩ (.slice (some ⟨gw, 0, none⟩) t.writes.length t.writes.length)) base g n (k + 1) (Ts ++ [t])
      (Qs.set k ⟨t, some ⟨ga, 0, none⟩, t.args.length, some ⟨gr, 0, none⟩, t.reads.length, some ⟨gw, 0, none⟩, t.writes.length⟩) lo' := by
  have hS := h.same hs hz
  have hkl : k < Qs.length := by rw [h.len]; exact hk
  have hP := hS.row.put hkl ⟨t, some ⟨ga, 0, none⟩, t.args.length, some ⟨gr, 0, none⟩, t.reads.length, some ⟨gw, 0, none⟩, t.writes.length⟩
  have hg := h.row.lt
  have hoth : ∀ G, G ≠ g → ((((W3.setCell ⟨g, k * 4, none⟩ (.int .i64 t.proc)).setCell ⟨g, k * 4 + 1, none⟩ (.slice (some ⟨ga, 0, none⟩) t.args.length t.args.length)).setCell ⟨g, k * 4 + 2, none⟩ (.slice (some ⟨gr, 0, none⟩) t.reads.length t.reads.length)).setCell ⟨g, k * 4 + 3, none⟩ (.slice (some ⟨gw, 0, none⟩) t.writes.length t.writes.length)).heap[G]? = W3.heap[G]? := fun G hG => by
    rw [heap_setCell_other _ _ G _ (by exact hG), heap_setCell_other _ _ G _ (by exact hG), heap_setCell_other _ _ G _ (by exact hG), heap_setCell_other _ _ G _ (by exact hG)]
  have hgw := hW.lt
  refine ⟨hS.row, fun i => if i ≤ k then lo i else W3.heap.size, hP, by rw [List.length_set]; exact h.len, by rw [take_set_map Qs k _ hkl, h.ts], h.ge, fun i hi => ?_, by simp only [Nat.zero_le, if_true]; exact h.lo0, by simp only [if_neg (show ¬ k + 1 ≤ k by omega)]; simp, fun i hi => ?_⟩
  · by_cases e : i = k
    · subst e
      rw [bd_set_eq _ _ _ hkl]
      have hlk := h.lok
      simp only [Nat.le_refl, if_true, if_neg (show ¬ i + 1 ≤ i by omega)]
      exact ⟨ga, gr, gw, rfl, hA.same (hoth ga (by omega)), hR.same (hoth gr (by omega)), hW.same (hoth gw (by omega)), by omega, h2, h3, hgw⟩
    · rw [bd_set_ne _ _ _ _ e]
      have hgt := h.gt i (by omega)
      simp only [if_pos (show i ≤ k by omega), if_pos (show i + 1 ≤ k by omega)]
      exact (hS.one i (by omega)).same (fun G g1 _ _ => hoth G (by omega))
  · by_cases e : i = k
    · subst e
      have hlk := h.lok
      simp only [Nat.le_refl, if_true, if_neg (show ¬ i + 1 ≤ i by omega)]; omega
    · simp only [if_pos (show i ≤ k by omega), if_pos (show i + 1 ≤ k by omega)]
      exact h.mono i (by omega)
def OwnBat (w0 : World) (Ts : List Tp) (v : Value) (w' : World) : Prop := ∃ g Qs lo, v = .slice (some ⟨g, 0, none⟩) Ts.length Ts.length ∧ Dcd w' w0.heap.size g Ts.length Ts.length Ts Qs lo
structure BS (w W : World) (r : Nat) (a : Option Addr) (c : Nat) (b : List Nat) (q : Nat) : Prop where
  rd : Reads w r a c b q 0 W
  box : W.heap[w.heap.size]? = some (.cells #[.pointer (some ⟨r, 0, none⟩)] 84 (0, 0))
  rlt : r < w.heap.size
theorem BS.cell {w W : World} {r : Nat} {a : Option Addr} {c : Nat} {b : List Nat} {q : Nat} (h : BS w W r a c b q) : W.cell? ⟨w.heap.size, 0, none⟩ = some (.pointer (some ⟨r, 0, none⟩)) := by simp [World.cell?, h.box]

set_option maxRecDepth 100000 in
set_option maxHeartbeats 2000000 in
theorem batch_r (w : World) (r : Nat) (a : Option Addr) (c : Nat) (b : List Nat) (p : Nat) (h : IsReader w r a c b p 0) :
    Calls Try.prog 45 #[rdv r] w fun e' w' => RdPost w r a c b (batR b p) (OwnBat w) e' w' := by
  have H0 : Hid (IsReader w r a c b p 0) := h
  have HR : Hid (Reads w r a c b p 0 (w.alloc (.cells #[.pointer (some ⟨r, 0, none⟩)] 84))) := Reads.alloc ⟨h, World.grownBy.refl _ _⟩ _
  have HB0 : Hid ((w.alloc (.cells #[.pointer (some ⟨r, 0, none⟩)] 84)).heap[w.heap.size]? = some (.cells #[.pointer (some ⟨r, 0, none⟩)] 84 (0, 0))) := heap_alloc_new _ _ rfl
  have HLt : Hid (r < w.heap.size) := h.lt
  have HA : Hid (batR b p = match upR b 64 p with | .ok (n, q) => txsR b n [] q | .error x => .error x) := rfl
  clear h
  generalize batR b p = TT at *
  go_enter Try.func45, Try.ntmps45
  go_upto_region 1 with fail
  generalize w.alloc (.cells #[.pointer (some ⟨r, 0, none⟩)] 84) = W0 at *
  have k0 : W0.cell? ⟨w.heap.size, 0, none⟩ = some (.pointer (some ⟨r, 0, none⟩)) := by simp [World.cell?, HB0.out]
  cases hu : upR b 64 p with
  | error x =>
    obtain ⟨q, x⟩ := x
    have HT : Hid (TT = .error (q, x)) := by rw [HA.out, hu]; rfl
    have HU : Hid (upR b 64 p = .error (q, x)) := hu
    clear hu HA
    go_wp2_with fail
    refine (upto_bad W0 r a c b p 64 q x HR.out.1 HU.out).mono ?_
    rintro e1 w1 ⟨rfl, hg1⟩
    have HF : Hid (RdPost w r a c b TT (OwnBat w) (.panicked (flt q x)) w1) := RdPost.fails HT.out (grown_trans' HR.out.2 hg1)
    clear hg1
    go_wp2
    exact ⟨rfl, HF.out⟩
  | ok x =>
    obtain ⟨n, q⟩ := x
    have HU : Hid (upR b 64 p = .ok (n, q)) := hu
    have HT : Hid (txsR b n [] q = TT) := by rw [HA.out, hu]; rfl
    clear hu HA
    go_wp2_with fail
    refine (upto_ok W0 r a c b p 64 n q HR.out.1 (by omega) HU.out).mono ?_
    rintro e1 w1 ⟨rfl, hr1, hn⟩
    have HB1 : Hid (w1.heap[w.heap.size]? = some (.cells #[.pointer (some ⟨r, 0, none⟩)] 84 (0, 0))) := (block_reads hr1 (Array.getElem?_eq_some_iff.1 HB0.out).1 (by have := HLt.out; omega)).trans HB0.out
    have HR1 : Hid (Reads w r a c b q 0 w1) := HR.out.trans hr1
    have hmk := make_txs n (n : Int) rfl (by omega)
    clear hr1 HR HB0 k0
    have hsz : w.heap.size < w1.heap.size := (Array.getElem?_eq_some_iff.1 HB1.out).1
    have HS0 : Hid (BS w (w1.alloc (.cells (bxcs (List.replicate n bxD)).toArray 58)) r a c b q) := ⟨HR1.out.alloc _, (heap_alloc_old _ _ hsz).trans HB1.out, HLt.out⟩
    have HD0 : Hid (Dcd (w1.alloc (.cells (bxcs (List.replicate n bxD)).toArray 58)) w.heap.size w1.heap.size n 0 [] (List.replicate n bxD) (fun _ => w1.heap.size + 1)) := ⟨heap_alloc_new _ _ rfl, by simp, by simp, by omega, fun i hi => by omega, Nat.lt_succ_self _, by simp, fun i hi => by omega⟩
    have HGt : Hid (w.heap.size < w1.heap.size) := hsz
    go_upto_region 2 with fail
    generalize w1.alloc (.cells (bxcs (List.replicate n bxD)).toArray 58) = W1 at *
    generalize w1.heap.size = g at *
    clear hmk HR1 HB1 hsz
    go_wp2_with fail
    go_loopw [10] (fun x wr => ∃ (k q : Nat) (T : List Tp) (Qs : List Bx) (lo : Nat → Nat), k ≤ n ∧ x = .int .i64 (k : Int) ∧ T.length = k ∧ Hid (BS w wr r a c b q) ∧ Hid (Dcd wr w.heap.size g n k T Qs lo) ∧ Hid (txsR b (n - k) T q = TT)) (fun x _ => n - (intOf x).toNat)
    case atStart => exact ⟨0, q, [], _, _, Nat.zero_le _, rfl, rfl, HS0, HD0, HT⟩
    case round =>
      clear HS0 HT HU q HD0
      obtain ⟨k, q, T, Qs, lo, hk, rfl, hA, HS, HD, HT⟩ := hrel
      by_cases hlt : k < n
      · have k0 := HS.out.cell
        have hlti : (k : Int) < (n : Int) := by omega
        have HT2 : Hid (TT = match txR b q with | .ok (x, q1) => txsR b (n - (k + 1)) (T ++ [x]) q1 | .error x => .error x) := by
          rw [← HT.out, show n - k = (n - (k + 1)) + 1 by omega]; rfl
        have HC : Hid (Calls Try.prog 65 #[rdv r] wr fun e' w' => RdPost wr r a c b (txR b q) (OwnTx wr) e' w') := tx_r wr r a c b q HS.out.rd.1
        clear HT
        cases hu : txR b q with
        | error x =>
          obtain ⟨q1, x⟩ := x
          have HT : Hid (TT = .error (q1, x)) := by rw [HT2.out, hu]; rfl
          rw [hu] at HC
          clear hu HT2
          go_wp2_with fail
          refine HC.out.mono ?_
          rintro e2 w2 ⟨rfl, hg2⟩
          have HF : Hid (RdPost w r a c b TT (OwnBat w) (.panicked (flt q1 x)) w2) := RdPost.fails HT.out (grown_trans' HS.out.rd.2 hg2)
          clear hg2 k0
          go_wp2
          exact ⟨rfl, HF.out⟩
        | ok x =>
          obtain ⟨t, q1⟩ := x
          have HT : Hid (txsR b (n - (k + 1)) (T ++ [t]) q1 = TT) := by rw [HT2.out, hu]; rfl
          rw [hu] at HC
          clear hu HT2
          go_wp2_with fail
          refine HC.out.mono ?_
          rintro e2 w2 ⟨v, rfl, hr2, ga, gr, gw, rfl, h1, h2, h3, h4, h5, h6⟩
          have hgr : ∀ G, g ≤ G → G < wr.heap.size → w2.heap[G]? = wr.heap[G]? := fun G g1 g2 => block_reads hr2 g2 (by have := HGt.out; have := HLt.out; omega)
          obtain ⟨hrow, lo', hp⟩ := HD.out.put hlt hgr hr2.2.size t ga gr gw h1 h2 h3 h4 h5 h6
          obtain ⟨e0, e1, e2, e3⟩ := hrow.cell k (by rw [HD.out.len]; exact hlt)
          have f0 := hrow.frozen (k * 4)
          have f1 := hrow.frozen (k * 4 + 1)
          have f2 := hrow.frozen (k * 4 + 2)
          have f3 := hrow.frozen (k * 4 + 3)
          have HD2 : Hid (Dcd _ w.heap.size g n (k + 1) (T ++ [t]) _ lo') := hp
          have HS2 : Hid (BS w ((((w2.setCell ⟨g, k * 4, none⟩ (.int .i64 t.proc)).setCell ⟨g, k * 4 + 1, none⟩ (.slice (some ⟨ga, 0, none⟩) t.args.length t.args.length)).setCell ⟨g, k * 4 + 2, none⟩ (.slice (some ⟨gr, 0, none⟩) t.reads.length t.reads.length)).setCell ⟨g, k * 4 + 3, none⟩ (.slice (some ⟨gw, 0, none⟩) t.writes.length t.writes.length)) r a c b q1) := by
            have hgt := HGt.out
            have hb := (Array.getElem?_eq_some_iff.1 HS.out.box).1
            refine ⟨((((HS.out.rd.trans hr2).setNew H0.out g _ _ (by omega)).setNew H0.out g _ _ (by omega)).setNew H0.out g _ _ (by omega)).setNew H0.out g _ _ (by omega), ?_, HS.out.rlt⟩
            rw [heap_setCell_other _ _ w.heap.size _ (by show w.heap.size ≠ g; omega), heap_setCell_other _ _ w.heap.size _ (by show w.heap.size ≠ g; omega), heap_setCell_other _ _ w.heap.size _ (by show w.heap.size ≠ g; omega), heap_setCell_other _ _ w.heap.size _ (by show w.heap.size ≠ g; omega)]
            exact (block_reads hr2 hb (by have := HLt.out; omega)).trans HS.out.box
          clear hp hrow hr2 h1 h2 h3 h4 h5 h6 hgr k0 HC HS HD
          go_wp2
          go_roundw
          case rel => exact ⟨k + 1, q1, T ++ [t], _, lo', by omega, by go_num, by simp [hA], HS2, HD2, HT⟩
          case measure => simp [intOf]; omega
      · obtain rfl : k = n := by omega
        have HF : Hid (RdPost w r a c b TT (OwnBat w) (.returned (.slice (some ⟨g, 0, none⟩) k k)) wr) := by
          have h1 := HT.out
          rw [Nat.sub_self] at h1
          refine RdPost.good (x := T) (q := q) h1.symm HS.out.rd ⟨g, Qs, lo, by rw [hA], ?_⟩
          rw [hA]; exact HD.out
        clear HS HT HD
        go_wp2
        go_ret
        exact HF.out
end Go.Proofs.Ytciogmenoighoaa.Kk
/-
  THE WALK OF Decode.
-/
namespace Go.Proofs.Ytciogmenoighoaa.Kk
open Go.RowKit Go.Sort

theorem kp1 {W : World} {b o g i : Nat} {u v : Value} (h : W.drew.cell? ⟨b, o, none⟩ = some u) (hb : ¬ b = g) : (W.setCell ⟨g, i, none⟩ v).drew.cell? ⟨b, o, none⟩ = some u := by
  have h2 := heap_setCell_other W ⟨g, i, none⟩ b v hb
  have h' : W.cell? ⟨b, o, none⟩ = some u := h
  show (W.setCell ⟨g, i, none⟩ v).cell? ⟨b, o, none⟩ = some u
  simp only [World.cell?] at h' ⊢
  rw [h2]; exact h'
/-- the deferred closure, where nothing is to be recovered -/
theorem catch_idle (p1 p2 p3 : Addr) (w : World) :
    CallsD Try.prog 43 #[.pointer (some p1), .pointer (some p2), .pointer (some p3)] .returning w fun e u' w' => e = .returned (.tuple #[]) ∧ u' = .returning ∧ w' = w := by
  refine callsD_of_wpS Try.func43 rfl fun c₀ cs hu => ?_
  apply wpS_seq
  apply wpS_region
  simp [wpOpsS, go_sem, recoverD, hu, Try.ntmps43, Exit.thenS]
  apply wpS_seq
  apply wpS_region
  simp [wpOpsS, go_sem, Exit.thenS]
  refine wpS_cond (t := false) (by simp [Act.eval, Array.replicate]) ?_
  simp only [Bool.false_eq_true, if_false]
  refine wpS_of_wp (wp_skip ?_)
  cases c₀
  simp_all [bodyPostS, results, Try.results43]

set_option maxRecDepth 100000 in
set_option maxHeartbeats 1000000 in
theorem catch_fault (b1 b2 b3 : Nat) (at_ e : Int) (older : List PanicEntry) (w : World) (x1 x2 x3 : Value) (T1 T2 T3 : TypeId) (h1 : w.heap[b1]? = some (.cells #[x1] T1 (0, 0))) (h2 : w.heap[b2]? = some (.cells #[x2] T2 (0, 0))) (h3 : w.heap[b3]? = some (.cells #[x3] T3 (0, 0))) (d12 : b1 ≠ b2) (d13 : b1 ≠ b3) (d23 : b2 ≠ b3) :
    CallsD Try.prog 43 #[.pointer (some ⟨b1, 0, none⟩), .pointer (some ⟨b2, 0, none⟩), .pointer (some ⟨b3, 0, none⟩)] (.panicking ({ v := .iface 80 (.agg #[.int .i64 at_, .int .i64 e]), recovered := false } :: older)) w fun e' u' w' =>
      e' = .returned (.tuple #[]) ∧ u' = .panicking ({ v := .iface 80 (.agg #[.int .i64 at_, .int .i64 e]), recovered := true } :: older) ∧
        w'.cell? ⟨b1, 0, none⟩ = some (.slice none 0 0) ∧ w'.cell? ⟨b2, 0, none⟩ = some (.int .i64 at_) ∧ w'.cell? ⟨b3, 0, none⟩ = some (.int .i64 e) ∧ (∀ k, k < w.heap.size → k ≠ b1 → k ≠ b2 → k ≠ b3 → w'.heap[k]? = w.heap[k]?) ∧ w.heap.size ≤ w'.heap.size ∧ w'.os = w.os ∧ w'.tape = w.tape ∧ w'.output = w.output := by
  refine callsD_of_wpS Try.func43 rfl fun c₀ cs hu => ?_
  apply wpS_seq
  apply wpS_region
  simp [wpOpsS, go_sem, recoverD, hu, Try.ntmps43, Exit.thenS]
  apply wpS_seq
  apply wpS_region
  simp [wpOpsS, go_sem, Exit.thenS]
  refine wpS_cond (t := true) (by simp [Act.eval, Array.replicate]) ?_
  simp only [if_true]
  refine wpS_of_wp ?_
  have HB : Hid (w.heap[b1]? = some (.cells #[x1] T1 (0, 0)) ∧ w.heap[b2]? = some (.cells #[x2] T2 (0, 0)) ∧ w.heap[b3]? = some (.cells #[x3] T3 (0, 0))) := ⟨h1, h2, h3⟩
  have l1 := (Array.getElem?_eq_some_iff.1 h1).1
  have l2 := (Array.getElem?_eq_some_iff.1 h2).1
  have l3 := (Array.getElem?_eq_some_iff.1 h3).1
  have HL : Hid (b1 < w.heap.size ∧ b2 < w.heap.size ∧ b3 < w.heap.size) := ⟨l1, l2, l3⟩
  clear h1 h2 h3 l1 l2 l3
  have hta : ∀ (w : World), (Instr.typeAssert (.iface 80 (.agg #[.int .i64 at_, .int .i64 e])) 20 80 false).run Try.prog w = .ok (.agg #[.int .i64 at_, .int .i64 e]) w := fun _ => by kernel_rfl
  have hrep : Array.replicate 11 undef = #[undef, undef, undef, undef, undef, undef, undef, undef, undef, undef, undef] := rfl
  simp only [hrep, List.setIfInBounds_toArray, List.set_cons_zero, List.set_cons_succ, List.append_toArray, List.cons_append, List.nil_append]
  clear hrep
  have HG : Hid (Grew w (w.alloc (.cells #[.int .i64 at_, .int .i64 e] 80))) := (Grew.refl _).alloc _
  have y0 : (w.alloc (.cells #[.int .i64 at_, .int .i64 e] 80)).cell? ⟨w.heap.size, 0, none⟩ = some (.int .i64 at_) := cell_new _ _ _ 0 _ rfl
  have y1 : (w.alloc (.cells #[.int .i64 at_, .int .i64 e] 80)).cell? ⟨w.heap.size, 1, none⟩ = some (.int .i64 e) := cell_new _ _ _ 1 _ rfl
  go_upto_region 3 with fail
  have HB2 : Hid ((w.alloc (.cells #[.int .i64 at_, .int .i64 e] 80)).drew.heap[b1]? = some (.cells #[x1] T1 (0, 0)) ∧ (w.alloc (.cells #[.int .i64 at_, .int .i64 e] 80)).drew.heap[b2]? = some (.cells #[x2] T2 (0, 0)) ∧ (w.alloc (.cells #[.int .i64 at_, .int .i64 e] 80)).drew.heap[b3]? = some (.cells #[x3] T3 (0, 0))) := ⟨(HG.out.heap HL.out.1).trans HB.out.1, (HG.out.heap HL.out.2.1).trans HB.out.2.1, (HG.out.heap HL.out.2.2).trans HB.out.2.2⟩
  generalize w.alloc (.cells #[.int .i64 at_, .int .i64 e] 80) = W1 at *
  have z0 : W1.drew.cell? ⟨w.heap.size, 0, none⟩ = some (.int .i64 at_) := y0
  have z1 : W1.drew.cell? ⟨w.heap.size, 1, none⟩ = some (.int .i64 e) := y1
  have c1 : W1.drew.cell? ⟨b1, 0, none⟩ = some x1 := by simp [World.cell?, HB2.out.1]
  have c2 : W1.drew.cell? ⟨b2, 0, none⟩ = some x2 := by simp [World.cell?, HB2.out.2.1]
  have c3 : W1.drew.cell? ⟨b3, 0, none⟩ = some x3 := by simp [World.cell?, HB2.out.2.2]
  have f1 := frozen_of_row W1.drew b1 0 _ _ HB2.out.1
  have f2 := frozen_of_row W1.drew b2 0 _ _ HB2.out.2.1
  have f3 := frozen_of_row W1.drew b3 0 _ _ HB2.out.2.2
  have n1 : ¬ w.heap.size = b1 := by have := HL.out; omega
  have n2 : ¬ w.heap.size = b2 := by have := HL.out; omega
  have n3 : ¬ w.heap.size = b3 := by have := HL.out; omega
  have d12' : ¬ b2 = b1 := fun e => d12 e.symm
  have d13' : ¬ b3 = b1 := fun e => d13 e.symm
  have d23' : ¬ b3 = b2 := fun e => d23 e.symm
  have c2' : (W1.setCell ⟨b1, 0, none⟩ (.slice none 0 0)).drew.cell? ⟨b2, 0, none⟩ = some x2 := kp1 c2 d12'
  have c3' : ((W1.setCell ⟨b1, 0, none⟩ (.slice none 0 0)).setCell ⟨b2, 0, none⟩ (.int .i64 at_)).drew.cell? ⟨b3, 0, none⟩ = some x3 := kp1 (kp1 c3 d13') d23'
  have r2 : (W1.setCell ⟨b1, 0, none⟩ (.slice none 0 0)).drew.heap[b2]? = some (.cells #[x2] T2 (0, 0)) := (heap_setCell_other W1 ⟨b1, 0, none⟩ b2 _ d12').trans HB2.out.2.1
  have r3 : ((W1.setCell ⟨b1, 0, none⟩ (.slice none 0 0)).setCell ⟨b2, 0, none⟩ (.int .i64 at_)).drew.heap[b3]? = some (.cells #[x3] T3 (0, 0)) := (heap_setCell_other (W1.setCell ⟨b1, 0, none⟩ (.slice none 0 0)) ⟨b2, 0, none⟩ b3 _ d23').trans ((heap_setCell_other W1 ⟨b1, 0, none⟩ b3 _ d13').trans HB2.out.2.2)
  have f2' := frozen_of_row _ b2 0 _ _ r2
  have f3' := frozen_of_row _ b3 0 _ _ r3
  clear y0 y1 r2 r3
  go_region_held3 (fun w' => w'.cell? ⟨w.heap.size, 0, none⟩ = some (.int .i64 at_) ∧ w'.cell? ⟨w.heap.size, 1, none⟩ = some (.int .i64 e)) (first | with_reducible exact ⟨kp1 z0 n1, kp1 z1 n1⟩ | with_reducible exact ⟨kp1 (kp1 z0 n1) n2, kp1 (kp1 z1 n1) n2⟩ | with_reducible exact ⟨kp1 (kp1 (kp1 z0 n1) n2) n3, kp1 (kp1 (kp1 z1 n1) n2) n3⟩ | go_keep) (fail)
  have hF : (((W1.setCell ⟨b1, 0, none⟩ (.slice none 0 0)).setCell ⟨b2, 0, none⟩ (.int .i64 at_)).setCell ⟨b3, 0, none⟩ (.int .i64 e)).drew.cell? ⟨b1, 0, none⟩ = some (.slice none 0 0) ∧ (((W1.setCell ⟨b1, 0, none⟩ (.slice none 0 0)).setCell ⟨b2, 0, none⟩ (.int .i64 at_)).setCell ⟨b3, 0, none⟩ (.int .i64 e)).drew.cell? ⟨b2, 0, none⟩ = some (.int .i64 at_) ∧ (((W1.setCell ⟨b1, 0, none⟩ (.slice none 0 0)).setCell ⟨b2, 0, none⟩ (.int .i64 at_)).setCell ⟨b3, 0, none⟩ (.int .i64 e)).drew.cell? ⟨b3, 0, none⟩ = some (.int .i64 e) ∧ (∀ k, k < w.heap.size → k ≠ b1 → k ≠ b2 → k ≠ b3 → (((W1.setCell ⟨b1, 0, none⟩ (.slice none 0 0)).setCell ⟨b2, 0, none⟩ (.int .i64 at_)).setCell ⟨b3, 0, none⟩ (.int .i64 e)).drew.heap[k]? = w.heap[k]?) ∧ w.heap.size ≤ (((W1.setCell ⟨b1, 0, none⟩ (.slice none 0 0)).setCell ⟨b2, 0, none⟩ (.int .i64 at_)).setCell ⟨b3, 0, none⟩ (.int .i64 e)).drew.heap.size ∧ (((W1.setCell ⟨b1, 0, none⟩ (.slice none 0 0)).setCell ⟨b2, 0, none⟩ (.int .i64 at_)).setCell ⟨b3, 0, none⟩ (.int .i64 e)).drew.os = w.os ∧ (((W1.setCell ⟨b1, 0, none⟩ (.slice none 0 0)).setCell ⟨b2, 0, none⟩ (.int .i64 at_)).setCell ⟨b3, 0, none⟩ (.int .i64 e)).drew.tape = w.tape ∧ (((W1.setCell ⟨b1, 0, none⟩ (.slice none 0 0)).setCell ⟨b2, 0, none⟩ (.int .i64 at_)).setCell ⟨b3, 0, none⟩ (.int .i64 e)).drew.output = w.output := by
    have s1 := heap_setCell_same W1 b1 0 _ _ (.slice none 0 0) HB2.out.1
    have s2 := heap_setCell_same (W1.setCell ⟨b1, 0, none⟩ (.slice none 0 0)) b2 0 _ _ (.int .i64 at_) ((heap_setCell_other W1 ⟨b1, 0, none⟩ b2 _ d12').trans HB2.out.2.1)
    have s3 := heap_setCell_same ((W1.setCell ⟨b1, 0, none⟩ (.slice none 0 0)).setCell ⟨b2, 0, none⟩ (.int .i64 at_)) b3 0 _ _ (.int .i64 e) ((heap_setCell_other (W1.setCell ⟨b1, 0, none⟩ (.slice none 0 0)) ⟨b2, 0, none⟩ b3 _ d23').trans ((heap_setCell_other W1 ⟨b1, 0, none⟩ b3 _ d13').trans HB2.out.2.2))
    have t1 : (((W1.setCell ⟨b1, 0, none⟩ (.slice none 0 0)).setCell ⟨b2, 0, none⟩ (.int .i64 at_)).setCell ⟨b3, 0, none⟩ (.int .i64 e)).heap[b1]? = _ := (heap_setCell_other _ ⟨b3, 0, none⟩ b1 _ d13).trans ((heap_setCell_other _ ⟨b2, 0, none⟩ b1 _ d12).trans s1)
    have t2 : (((W1.setCell ⟨b1, 0, none⟩ (.slice none 0 0)).setCell ⟨b2, 0, none⟩ (.int .i64 at_)).setCell ⟨b3, 0, none⟩ (.int .i64 e)).heap[b2]? = _ := (heap_setCell_other _ ⟨b3, 0, none⟩ b2 _ d23).trans s2
    have hb := HG.out.below
    refine ⟨?_, ?_, ?_, fun k hk k1 k2 k3 => ?_, ?_, hb.os, hb.tape, hb.output⟩
    · show World.cell? _ _ = _
      simp only [World.cell?, World.drew, t1]; rfl
    · show World.cell? _ _ = _
      simp only [World.cell?, World.drew, t2]; rfl
    · show World.cell? _ _ = _
      simp only [World.cell?, World.drew, s3]; rfl
    · exact (heap_setCell_other _ ⟨b3, 0, none⟩ k _ k3).trans ((heap_setCell_other _ ⟨b2, 0, none⟩ k _ k2).trans ((heap_setCell_other _ ⟨b1, 0, none⟩ k _ k1).trans (hb.block k hk)))
    · have h1 := hb.size
      simpa [World.drew] using h1
  clear c1 c2 c3 c2' c3' f1 f2 f3 f2' f3' z0 z1 hta HB2 HB HL HG
  generalize (((W1.setCell ⟨b1, 0, none⟩ (.slice none 0 0)).setCell ⟨b2, 0, none⟩ (.int .i64 at_)).setCell ⟨b3, 0, none⟩ (.int .i64 e)).drew = WF at *
  cases c₀
  simp_all +zetaDelta [bodyPostS, results, Try.results43]
end Go.Proofs.Ytciogmenoighoaa.Kk
/-
  Decode.
-/
namespace Go.Proofs.Ytciogmenoighoaa.Kk
open Go.RowKit Go.Sort

def DecPost (w : World) (zs : List Nat) (e' : Ending) (w' : World) : Prop :=
  match decR zs with
  | .ok Ts => ∃ v, e' = .returned (.tuple #[v, .int .i64 0, .int .i64 0]) ∧ OwnBat w Ts v w' ∧ Below w.heap.size w w'
  | .error (q, x) => e' = .returned (.tuple #[.slice none 0 0, .int .i64 (q : Int), .int .i64 x]) ∧ Below w.heap.size w w'
/-- the three named results -/
structure D3 (w W : World) (v1 v2 v3 : Value) : Prop where
  b1 : W.heap[w.heap.size]? = some (.cells #[v1] 22 (0, 0))
  b2 : W.heap[w.heap.size + 1]? = some (.cells #[v2] 3 (0, 0))
  b3 : W.heap[w.heap.size + 1 + 1]? = some (.cells #[v3] 26 (0, 0))
  bel : Below w.heap.size w W
theorem D3.new (w : World) : D3 w (((w.alloc (.cells #[.slice none 0 0] 22)).alloc (.cells #[.int .i64 0] 3)).alloc (.cells #[.int .i64 0] 26)) (.slice none 0 0) (.int .i64 0) (.int .i64 0) :=
  ⟨(heap_alloc_old _ _ (by simp; omega)).trans ((heap_alloc_old _ _ (by simp)).trans (heap_alloc_new _ _ rfl)), (heap_alloc_old _ _ (by simp)).trans (heap_alloc_new _ _ (by simp)), heap_alloc_new _ _ (by simp), (((Below.refl _ _).alloc (Nat.le_refl _) _).alloc (by simp) _).alloc (by simp; omega) _⟩
theorem D3.kept {w W W' : World} {v1 v2 v3 : Value} (h : D3 w W v1 v2 v3) (hs : ∀ k, k < W.heap.size → k ≤ w.heap.size + 1 + 1 → W'.heap[k]? = W.heap[k]?) (hz : W.heap.size ≤ W'.heap.size) (ho : W'.os = W.os) (ht : W'.tape = W.tape) (hu : W'.output = W.output) : D3 w W' v1 v2 v3 :=
  ⟨(hs _ (Array.getElem?_eq_some_iff.1 h.b1).1 (by omega)).trans h.b1, (hs _ (Array.getElem?_eq_some_iff.1 h.b2).1 (by omega)).trans h.b2, (hs _ (Array.getElem?_eq_some_iff.1 h.b3).1 (by omega)).trans h.b3,
    ⟨ho.trans h.bel.os, ht.trans h.bel.tape, hu.trans h.bel.output, Nat.le_trans h.bel.size hz, fun k hk => (hs k (Nat.lt_of_lt_of_le hk h.bel.size) (by omega)).trans (h.bel.block k hk)⟩⟩

set_option maxRecDepth 100000 in
set_option maxHeartbeats 1000000 in
theorem decode_b (w : World) (ao : Option Addr) (n cap : Nat) (zs : List Nat) (hn : n = zs.length) (h : BytesAt w ao zs) (hm : n ≤ 140737488355328) :
    Calls Try.prog 15 #[.slice ao n cap] w fun e' w' => DecPost w zs e' w' := by
  have hmf : ∀ (fn : Fn) (first cap : Array Value) (w : World), (Instr.makeFunc fn first cap).run Try.prog w = .ok (.func fn first cap) w := fun _ _ _ _ => rfl
  have HB : Hid (BytesAt w ao zs ∧ n = zs.length) := ⟨h, hn⟩
  have HD0 : Hid (D3 w _ _ _ _) := D3.new w
  clear h hn
  go_enter_defers Try.func15, Try.ntmps15
  go_wp2_with fail
  generalize ((w.alloc (.cells #[.slice none 0 0] 22)).alloc (.cells #[.int .i64 0] 3)).alloc (.cells #[.int .i64 0] 26) = W0 at *
  refine (read_any W0 ao cap n zs HB.out.2 (HB.out.1.kept HD0.out.bel) (by omega)).mono ?_
  rintro e w1 ⟨rfl, hrd, hb1, hs1⟩
  have HZ : Hid (w.heap.size + 1 + 1 < W0.heap.size) := (Array.getElem?_eq_some_iff.1 HD0.out.b3).1
  have HR1 : Hid (IsReader w1 (W0.heap.size + 1) (some ⟨W0.heap.size, 0, none⟩) n zs 0 0) := hrd
  have HD1 : Hid (D3 w w1 (.slice none 0 0) (.int .i64 0) (.int .i64 0)) := HD0.out.kept (fun k hk _ => hb1.block k hk) hb1.size hb1.os hb1.tape hb1.output
  clear hrd hb1 hs1 HD0
  obtain ⟨r, hr⟩ : ∃ r, r = W0.heap.size + 1 := ⟨_, rfl⟩
  rw [← hr] at HR1 ⊢
  have HRr : Hid (w.heap.size + 1 + 1 < r) := by rw [hr]; have := HZ.out; simp only [Hid]; omega
  have HRa : Hid (∀ k, (Value.slice (some ⟨W0.heap.size, 0, none⟩) zs.length n).ownBlock = some k → w.heap.size + 1 + 1 < k) := fun k e => by cases e; exact HZ.out
  clear hr HZ
  generalize (some ⟨W0.heap.size, 0, none⟩ : Option Addr) = ra at *
  have HR2 : Hid (IsReader (w1.alloc (.cells #[.pointer (some ⟨r, 0, none⟩)] 84)) r ra n zs 0 0) := HR1.out.kept ((Below.refl _ _).alloc (Nat.le_refl _) _)
  have HD2 : Hid (D3 w (w1.alloc (.cells #[.pointer (some ⟨r, 0, none⟩)] 84)) (.slice none 0 0) (.int .i64 0) (.int .i64 0)) := HD1.out.kept (fun k hk _ => heap_alloc_old _ _ hk) (by simp) rfl rfl rfl
  have HX2 : Hid ((w1.alloc (.cells #[.pointer (some ⟨r, 0, none⟩)] 84)).heap[w1.heap.size]? = some (.cells #[.pointer (some ⟨r, 0, none⟩)] 84 (0, 0)) ∧ w.heap.size + 1 + 1 < w1.heap.size ∧ r < w1.heap.size) := ⟨heap_alloc_new _ _ rfl, (Array.getElem?_eq_some_iff.1 HD1.out.b3).1, HR1.out.lt⟩
  go_upto_region 3 with fail
  generalize w1.alloc (.cells #[.pointer (some ⟨r, 0, none⟩)] 84) = W2 at *
  generalize w1.heap.size = B5 at *
  have k0 : W2.cell? ⟨B5, 0, none⟩ = some (.pointer (some ⟨r, 0, none⟩)) := by simp [World.cell?, HX2.out.1]
  have HC : Hid (Calls Try.prog 45 #[rdv r] W2 fun e' w' => RdPost W2 r ra n zs (batR zs 0) (OwnBat W2) e' w') := batch_r W2 r ra n zs 0 HR2.out
  have HDc : Hid (decR zs = match batR zs 0 with | .error x => .error x | .ok (T, p) => if p = zs.length then .ok T else .error (p, 11)) := rfl
  clear HR1 HD1
  cases hu : batR zs 0 with
  | error x =>
    obtain ⟨q, x⟩ := x
    have HT : Hid (decR zs = .error (q, x)) := by rw [HDc.out, hu]; rfl
    rw [hu] at HC
    clear hu HDc
    go_wp2_with fail
    refine HC.out.mono ?_
    rintro e1 w3 ⟨rfl, hg3⟩
    have HD3 : Hid (D3 w w3 (.slice none 0 0) (.int .i64 0) (.int .i64 0)) := HD2.out.kept (fun k hk h1 => hg3.block k hk (fun e => by have := HRr.out; simp at e; omega)) hg3.size hg3.os hg3.tape hg3.output
    clear hg3 k0 HC
    go_wp2
    refine leaves_cons (f := 43) (args := #[.pointer (some ⟨w.heap.size, 0, none⟩), .pointer (some ⟨w.heap.size + 1, 0, none⟩), .pointer (some ⟨w.heap.size + 1 + 1, 0, none⟩)]) (by simp) (by simp [go_sem]) ?_
    refine (catch_fault w.heap.size (w.heap.size + 1) (w.heap.size + 1 + 1) (q : Int) x [] w3 _ _ _ _ _ _ HD3.out.b1 HD3.out.b2 HD3.out.b3 (by omega) (by omega) (by omega)).mono ?_
    rintro e2 u' w4 ⟨rfl, rfl, g1, g2, g3, hfr, hsz, ho, ht, hou⟩
    have HF : Hid (DecPost w zs (.returned (.tuple #[.slice none 0 0, .int .i64 (q : Int), .int .i64 x])) w4) := by
      unfold DecPost
      rw [HT.out]
      have hb := HD3.out.bel
      exact ⟨rfl, ho.trans hb.os, ht.trans hb.tape, hou.trans hb.output, Nat.le_trans hb.size hsz, fun k hk => (hfr k (Nat.lt_of_lt_of_le hk hb.size) (by omega) (by omega) (by omega)).trans (hb.block k hk)⟩
    clear hfr hsz ho ht hou
    simp [Leaves, settle, results, Try.results15, go_sem, g1, g2, g3]
    exact HF.out
  | ok x =>
    obtain ⟨Ts, q⟩ := x
    have HT : Hid (decR zs = if q = zs.length then .ok Ts else .error (q, 11)) := by rw [HDc.out, hu]; rfl
    rw [hu] at HC
    clear hu HDc
    go_wp2_with fail
    refine HC.out.mono ?_
    rintro e1 w3 ⟨v, rfl, hr3, g, Qs, lo, rfl, hdc⟩
    have hg3 := hr3.2
    have hX := HX2.out
    have hZ2 : B5 < W2.heap.size := (Array.getElem?_eq_some_iff.1 hX.1).1
    have HD3 : Hid (D3 w w3 (.slice none 0 0) (.int .i64 0) (.int .i64 0)) := HD2.out.kept (fun k hk h1 => hg3.block k hk (fun e => by have := HRr.out; simp at e; omega)) hg3.size hg3.os hg3.tape hg3.output
    have HX3 : Hid (w3.heap[B5]? = some (.cells #[.pointer (some ⟨r, 0, none⟩)] 84 (0, 0))) := (block_reads hr3 hZ2 (by omega)).trans hX.1
    have HR3 : Hid (IsReader w3 r ra n zs q 0) := hr3.1
    have HQd : Hid (Dcd w3 W2.heap.size g Ts.length Ts.length Ts Qs lo ∧ w.heap.size + 1 + 1 < W2.heap.size ∧ w.heap.size + 1 + 1 < B5) := ⟨hdc, by omega, by omega⟩
    clear hr3 hdc hg3 hX hZ2 k0 HC HD2
    have hge := HQd.out.1.ge
    -- the batch is stored into its named result
    have c1 : w3.cell? ⟨w.heap.size, 0, none⟩ = some (.slice none 0 0) := by simp [World.cell?, HD3.out.b1]
    have f1 := frozen_of_row w3 w.heap.size 0 _ _ HD3.out.b1
    have HD4 : Hid (D3 w (w3.setCell ⟨w.heap.size, 0, none⟩ (.slice (some ⟨g, 0, none⟩) Ts.length Ts.length)) (.slice (some ⟨g, 0, none⟩) Ts.length Ts.length) (.int .i64 0) (.int .i64 0)) :=
      ⟨heap_setCell_same w3 w.heap.size 0 _ _ _ HD3.out.b1, (heap_setCell_other w3 ⟨w.heap.size, 0, none⟩ (w.heap.size + 1) _ (by show w.heap.size + 1 ≠ w.heap.size; omega)).trans HD3.out.b2, (heap_setCell_other w3 ⟨w.heap.size, 0, none⟩ (w.heap.size + 1 + 1) _ (by show w.heap.size + 1 + 1 ≠ w.heap.size; omega)).trans HD3.out.b3, bset HD3.out.bel _ (Nat.le_refl _)⟩
    have HX4 : Hid ((w3.setCell ⟨w.heap.size, 0, none⟩ (.slice (some ⟨g, 0, none⟩) Ts.length Ts.length)).heap[B5]? = some (.cells #[.pointer (some ⟨r, 0, none⟩)] 84 (0, 0))) := (heap_setCell_other w3 ⟨w.heap.size, 0, none⟩ B5 _ (by show B5 ≠ w.heap.size; have := HQd.out.2.2; omega)).trans HX3.out
    have HR4 : Hid (IsReader (w3.setCell ⟨w.heap.size, 0, none⟩ (.slice (some ⟨g, 0, none⟩) Ts.length Ts.length)) r ra n zs q 0) := by
      have hr := HRr.out
      refine HR3.out.grown (grown_setCell w3 ⟨w.heap.size, 0, none⟩ _) (fun e => by simp at e; omega) ?_
      by_cases hb : (Value.slice ra zs.length n).ownBlock = none
      · exact .inl hb
      · refine .inr fun e => ?_
        have := HRa.out _ e
        simp only at this
        omega
    have HQ4 : Hid (Dcd (w3.setCell ⟨w.heap.size, 0, none⟩ (.slice (some ⟨g, 0, none⟩) Ts.length Ts.length)) W2.heap.size g Ts.length Ts.length Ts Qs lo) := HQd.out.1.same (fun G g1 _ => heap_setCell_other w3 ⟨w.heap.size, 0, none⟩ G _ (by show G ≠ w.heap.size; have := HQd.out.2.1; omega)) (by simp)
    clear hge
    go_upto_region 4 with fail
    generalize w3.setCell ⟨w.heap.size, 0, none⟩ (.slice (some ⟨g, 0, none⟩) Ts.length Ts.length) = W4 at *
    clear c1 f1 HX3 HR3 HD3
    have k4 : W4.cell? ⟨B5, 0, none⟩ = some (.pointer (some ⟨r, 0, none⟩)) := by simp [World.cell?, HX4.out]
    by_cases hq : q = zs.length
    case neg =>
      have HT2 : Hid (decR zs = .error (q, 11)) := by rw [HT.out, if_neg hq]; rfl
      have HE : Hid (rdEnd zs q 0 = 11) := by
        have := HR4.out.2.2.1
        unfold rdEnd
        rw [if_pos ⟨rfl, by omega⟩]; rfl
      clear HT hq
      go_wp2_with fail
      refine (end_bad W4 r ra n zs q 0 HR4.out (by rw [HE.out]; omega)).mono ?_
      rintro e2 w5 ⟨rfl, hg5⟩
      rw [HE.out]
      have HD5 : Hid (D3 w w5 (.slice (some ⟨g, 0, none⟩) Ts.length Ts.length) (.int .i64 0) (.int .i64 0)) := HD4.out.kept (fun k hk _ => hg5.heap hk) hg5.size hg5.below.os hg5.below.tape hg5.below.output
      clear hg5 k4
      go_wp2
      refine leaves_cons (f := 43) (args := #[.pointer (some ⟨w.heap.size, 0, none⟩), .pointer (some ⟨w.heap.size + 1, 0, none⟩), .pointer (some ⟨w.heap.size + 1 + 1, 0, none⟩)]) (by simp) (by simp [go_sem]) ?_
      refine (catch_fault w.heap.size (w.heap.size + 1) (w.heap.size + 1 + 1) (q : Int) 11 [] w5 _ _ _ _ _ _ HD5.out.b1 HD5.out.b2 HD5.out.b3 (by omega) (by omega) (by omega)).mono ?_
      rintro e3 u' w6 ⟨rfl, rfl, g1, g2, g3, hfr, hsz, ho, ht, hou⟩
      have HF : Hid (DecPost w zs (.returned (.tuple #[.slice none 0 0, .int .i64 (q : Int), .int .i64 11])) w6) := by
        unfold DecPost
        rw [HT2.out]
        have hb := HD5.out.bel
        exact ⟨rfl, ho.trans hb.os, ht.trans hb.tape, hou.trans hb.output, Nat.le_trans hb.size hsz, fun k hk => (hfr k (Nat.lt_of_lt_of_le hk hb.size) (by omega) (by omega) (by omega)).trans (hb.block k hk)⟩
      clear hfr hsz ho ht hou
      simp [Leaves, settle, results, Try.results15, go_sem, g1, g2, g3]
      exact HF.out
    case pos =>
      have HT2 : Hid (decR zs = .ok Ts) := by rw [HT.out, if_pos hq]; rfl
      have HQq : Hid (q = zs.length) := hq
      clear HT hq
      go_wp2_with fail
      refine (end_ok W4 r ra n zs q HR4.out HQq.out).mono ?_
      rintro e2 w5 ⟨rfl, hg5⟩
      have HD5 : Hid (D3 w w5 (.slice (some ⟨g, 0, none⟩) Ts.length Ts.length) (.int .i64 0) (.int .i64 0)) := HD4.out.kept (fun k hk _ => hg5.heap hk) hg5.size hg5.below.os hg5.below.tape hg5.below.output
      have HQ5 : Hid (Dcd w5 W2.heap.size g Ts.length Ts.length Ts Qs lo) := HQ4.out.same (fun G _ hG => hg5.heap hG) hg5.size
      clear hg5 k4 HQ4 HD4
      have c1 : w5.cell? ⟨w.heap.size, 0, none⟩ = some (.slice (some ⟨g, 0, none⟩) Ts.length Ts.length) := by simp [World.cell?, HD5.out.b1]
      have c2 : w5.cell? ⟨w.heap.size + 1, 0, none⟩ = some (.int .i64 0) := by simp [World.cell?, HD5.out.b2]
      have c3 : w5.cell? ⟨w.heap.size + 1 + 1, 0, none⟩ = some (.int .i64 0) := by simp [World.cell?, HD5.out.b3]
      have f1 := frozen_of_row w5 w.heap.size 0 _ _ HD5.out.b1
      have f2 := frozen_of_row w5 (w.heap.size + 1) 0 _ _ HD5.out.b2
      have f3 := frozen_of_row w5 (w.heap.size + 1 + 1) 0 _ _ HD5.out.b3
      have s1 := heap_setCell_same w5 w.heap.size 0 _ _ (.slice (some ⟨g, 0, none⟩) Ts.length Ts.length) HD5.out.b1
      have s2 := heap_setCell_same (w5.setCell ⟨w.heap.size, 0, none⟩ (.slice (some ⟨g, 0, none⟩) Ts.length Ts.length)) (w.heap.size + 1) 0 _ _ (.int .i64 0) ((heap_setCell_other w5 ⟨w.heap.size, 0, none⟩ (w.heap.size + 1) _ (by show w.heap.size + 1 ≠ w.heap.size; omega)).trans HD5.out.b2)
      have s3 := heap_setCell_same ((w5.setCell ⟨w.heap.size, 0, none⟩ (.slice (some ⟨g, 0, none⟩) Ts.length Ts.length)).setCell ⟨w.heap.size + 1, 0, none⟩ (.int .i64 0)) (w.heap.size + 1 + 1) 0 _ _ (.int .i64 0) ((heap_setCell_other _ ⟨w.heap.size + 1, 0, none⟩ (w.heap.size + 1 + 1) _ (by show w.heap.size + 1 + 1 ≠ w.heap.size + 1; omega)).trans ((heap_setCell_other w5 ⟨w.heap.size, 0, none⟩ (w.heap.size + 1 + 1) _ (by show w.heap.size + 1 + 1 ≠ w.heap.size; omega)).trans HD5.out.b3))
      have HE : Hid ((((w5.setCell ⟨w.heap.size, 0, none⟩ (.slice (some ⟨g, 0, none⟩) Ts.length Ts.length)).setCell ⟨w.heap.size + 1, 0, none⟩ (.int .i64 0)).setCell ⟨w.heap.size + 1 + 1, 0, none⟩ (.int .i64 0)).cell? ⟨w.heap.size, 0, none⟩ = some (.slice (some ⟨g, 0, none⟩) Ts.length Ts.length) ∧ (((w5.setCell ⟨w.heap.size, 0, none⟩ (.slice (some ⟨g, 0, none⟩) Ts.length Ts.length)).setCell ⟨w.heap.size + 1, 0, none⟩ (.int .i64 0)).setCell ⟨w.heap.size + 1 + 1, 0, none⟩ (.int .i64 0)).cell? ⟨w.heap.size + 1, 0, none⟩ = some (.int .i64 0) ∧ (((w5.setCell ⟨w.heap.size, 0, none⟩ (.slice (some ⟨g, 0, none⟩) Ts.length Ts.length)).setCell ⟨w.heap.size + 1, 0, none⟩ (.int .i64 0)).setCell ⟨w.heap.size + 1 + 1, 0, none⟩ (.int .i64 0)).cell? ⟨w.heap.size + 1 + 1, 0, none⟩ = some (.int .i64 0)) := by
        have t1 : (((w5.setCell ⟨w.heap.size, 0, none⟩ (.slice (some ⟨g, 0, none⟩) Ts.length Ts.length)).setCell ⟨w.heap.size + 1, 0, none⟩ (.int .i64 0)).setCell ⟨w.heap.size + 1 + 1, 0, none⟩ (.int .i64 0)).heap[w.heap.size]? = _ := (heap_setCell_other _ ⟨w.heap.size + 1 + 1, 0, none⟩ w.heap.size _ (by show w.heap.size ≠ w.heap.size + 1 + 1; omega)).trans ((heap_setCell_other _ ⟨w.heap.size + 1, 0, none⟩ w.heap.size _ (by show w.heap.size ≠ w.heap.size + 1; omega)).trans s1)
        have t2 : (((w5.setCell ⟨w.heap.size, 0, none⟩ (.slice (some ⟨g, 0, none⟩) Ts.length Ts.length)).setCell ⟨w.heap.size + 1, 0, none⟩ (.int .i64 0)).setCell ⟨w.heap.size + 1 + 1, 0, none⟩ (.int .i64 0)).heap[w.heap.size + 1]? = _ := (heap_setCell_other _ ⟨w.heap.size + 1 + 1, 0, none⟩ (w.heap.size + 1) _ (by show w.heap.size + 1 ≠ w.heap.size + 1 + 1; omega)).trans s2
        exact ⟨by simp only [World.cell?, t1]; rfl, by simp only [World.cell?, t2]; rfl, by simp only [World.cell?, s3]; rfl⟩
      have HF : Hid (DecPost w zs (.returned (.tuple #[(.slice (some ⟨g, 0, none⟩) Ts.length Ts.length), .int .i64 0, .int .i64 0])) (((w5.setCell ⟨w.heap.size, 0, none⟩ (.slice (some ⟨g, 0, none⟩) Ts.length Ts.length)).setCell ⟨w.heap.size + 1, 0, none⟩ (.int .i64 0)).setCell ⟨w.heap.size + 1 + 1, 0, none⟩ (.int .i64 0))) := by
        unfold DecPost
        rw [HT2.out]
        have hz := HQd.out.2.1
        have hq5 := HQ5.out.same (W' := (((w5.setCell ⟨w.heap.size, 0, none⟩ (.slice (some ⟨g, 0, none⟩) Ts.length Ts.length)).setCell ⟨w.heap.size + 1, 0, none⟩ (.int .i64 0)).setCell ⟨w.heap.size + 1 + 1, 0, none⟩ (.int .i64 0))) (fun G g1 _ => by
          have hge := HQ5.out.ge
          rw [heap_setCell_other _ ⟨w.heap.size + 1 + 1, 0, none⟩ G _ (by show G ≠ w.heap.size + 1 + 1; omega), heap_setCell_other _ ⟨w.heap.size + 1, 0, none⟩ G _ (by show G ≠ w.heap.size + 1; omega), heap_setCell_other _ ⟨w.heap.size, 0, none⟩ G _ (by show G ≠ w.heap.size; omega)]) (by simp)
        refine ⟨_, rfl, ⟨g, Qs, lo, rfl, hq5.row, hq5.len, hq5.ts, by have := hq5.ge; omega, hq5.one, hq5.lo0, hq5.lok, hq5.mono⟩, bset (bset (bset HD5.out.bel _ (Nat.le_refl _)) _ (by omega)) _ (by omega)⟩
      clear s1 s2 s3 HD5 HQ5
      go_wp2
      refine leaves_cons (f := 43) (args := #[.pointer (some ⟨w.heap.size, 0, none⟩), .pointer (some ⟨w.heap.size + 1, 0, none⟩), .pointer (some ⟨w.heap.size + 1 + 1, 0, none⟩)]) (by simp) (by simp [go_sem]) ?_
      refine (catch_idle _ _ _ _).mono ?_
      rintro e3 u' w6 ⟨rfl, rfl, hw6⟩
      subst hw6
      obtain ⟨g1, g2, g3⟩ := HE.out
      simp [Leaves, settle, results, Try.results15, go_sem, g1, g2, g3]
      exact HF.out
end Go.Proofs.Ytciogmenoighoaa.Kk
