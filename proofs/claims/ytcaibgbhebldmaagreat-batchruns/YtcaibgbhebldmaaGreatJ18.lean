import Derived.Test.YtcaibgbhebldmaaGreatJ16
import Derived.Test.YtcaibgbhebldmaaGreatJ04
import Derived.Deep.MidRow
/-
  THE WALKS OF key, args.
-/
namespace Go.Proofs.YtcaibgbhebldmaaGreat.Kk
open Go.RowKit Go.Sort

theorem block_reads {w w1 : World} {r : Nat} {a : Option Addr} {c : Nat} {b : List Nat} {p : Nat} {e : Int} (h : Reads w r a c b p e w1) {k : Nat} (hk : k < w.heap.size) (hr : k ≠ r) : w1.heap[k]? = w.heap[k]? := h.2.block k hk (fun e => hr (by simpa using e))
theorem ldKey (W : World) (G : Nat) (u v : Value) (x y : Int) (h : W.heap[G]? = some (.cells #[u, v] 89 (0, 0))) :
    (loadVar 89 ⟨G, 0, none⟩).run Tryz.prog ((W.setCell ⟨G, 0, none⟩ (.int .i64 x)).setCell ⟨G, 1, none⟩ (.int .i64 y)) = .ok (.agg #[.int .i64 x, .int .i64 y]) ((W.setCell ⟨G, 0, none⟩ (.int .i64 x)).setCell ⟨G, 1, none⟩ (.int .i64 y)) := by
  have h1 := heap_setCell_same W G 0 _ _ (.int .i64 x) h
  have h2 := heap_setCell_same _ G 1 _ _ (.int .i64 y) h1
  refine run_loadVar_mid (P := Tryz.prog) _ G 0 89 [.int .i64 x, .int .i64 y] _ ?_ Tryz.underlying89 rfl (by kernel_rfl)
  intro j v hv
  simp only [World.cell?, h2, Nat.zero_add]
  simpa using hv

set_option maxRecDepth 100000 in
set_option maxHeartbeats 1000000 in
theorem key_ok (w : World) (r : Nat) (a : Option Addr) (c : Nat) (b : List Nat) (p : Nat) (h : IsReader w r a c b p 0) (hp : p + 10 ≤ b.length) :
    Calls Tryz.prog 98 #[rdv r] w fun e' w' => e' = .returned (.agg #[.int .i64 (fromK ((b.drop p).take 10)).1, .int .i64 (fromK ((b.drop p).take 10)).2]) ∧ Reads w r a c b (p + 10) 0 w' := by
  have H0 : Hid (IsReader w r a c b p 0) := h
  have HR : Hid (Reads w r a c b p 0 ((w.alloc (.cells #[.pointer (some ⟨r, 0, none⟩)] 116)).alloc (.cells #[.int .i64 0, .int .i64 0] 89))) := Reads.alloc (Reads.alloc ⟨h, World.grownBy.refl _ _⟩ _) _
  have HB0 : Hid (((w.alloc (.cells #[.pointer (some ⟨r, 0, none⟩)] 116)).alloc (.cells #[.int .i64 0, .int .i64 0] 89)).heap[w.heap.size]? = some (.cells #[.pointer (some ⟨r, 0, none⟩)] 116 (0, 0)) ∧ ((w.alloc (.cells #[.pointer (some ⟨r, 0, none⟩)] 116)).alloc (.cells #[.int .i64 0, .int .i64 0] 89)).heap[w.heap.size + 1]? = some (.cells #[.int .i64 0, .int .i64 0] 89 (0, 0))) := ⟨(heap_alloc_old _ _ (by simp)).trans (heap_alloc_new _ _ rfl), heap_alloc_new _ _ (by simp)⟩
  have HQ : Hid (rdRaw b p 0 10 = ((b.drop p).take 10, p + 10, 0)) := by
    unfold rdRaw
    rw [if_neg (by simp), if_neg (by omega), if_neg (by omega)]; rfl
  have HLt : Hid (r < w.heap.size) := h.lt
  have HZl : Hid (((b.drop p).take 10).length = 10) := by simp only [List.length_take, List.length_drop, Hid]; omega
  clear h
  go_enter Tryz.func98, Tryz.ntmps98
  go_upto_region 1 with fail
  generalize (w.alloc (.cells #[.pointer (some ⟨r, 0, none⟩)] 116)).alloc (.cells #[.int .i64 0, .int .i64 0] 89) = W0 at *
  have k0 : W0.cell? ⟨w.heap.size, 0, none⟩ = some (.pointer (some ⟨r, 0, none⟩)) := by simp [World.cell?, HB0.out.1]
  go_wp2_with fail
  refine (rRaw_any W0 r a c b p 0 10 HR.out.1).mono ?_
  rintro e1 w1 ⟨v, rfl, ho, hr1⟩
  rw [HQ.out] at ho hr1
  have hs0 : w.heap.size + 1 < W0.heap.size := (Array.getElem?_eq_some_iff.1 HB0.out.2).1
  have HB1 : Hid (w1.heap[w.heap.size]? = some (.cells #[.pointer (some ⟨r, 0, none⟩)] 116 (0, 0)) ∧ w1.heap[w.heap.size + 1]? = some (.cells #[.int .i64 0, .int .i64 0] 89 (0, 0))) := ⟨(block_reads hr1 (by omega) (by have := HLt.out; omega)).trans HB0.out.1, (block_reads hr1 (by omega) (by have := HLt.out; omega)).trans HB0.out.2⟩
  have HR1 : Hid (Reads w r a c b (p + 10) 0 w1) := HR.out.trans hr1
  obtain ⟨ao, cap, e0, hby, _, hcap⟩ := ho.slice
  subst e0
  have HBy : Hid (BytesAt w1 ao ((b.drop p).take 10)) := hby
  have HCap : Hid (((b.drop p).take 10).length ≤ cap) := hcap
  rw [HZl.out] at HCap ⊢
  clear hr1 ho k0 HR HB0 hby hcap hs0
  have k1 : w1.cell? ⟨w.heap.size, 0, none⟩ = some (.pointer (some ⟨r, 0, none⟩)) := by simp [World.cell?, HB1.out.1]
  go_wp2_with fail
  refine (look_ok w1 r a c b (p + 10) HR1.out.1).mono ?_
  rintro e2 w2 ⟨rfl, hg2⟩
  have HR2 : Hid (Reads w r a c b (p + 10) 0 w2) := HR1.out.kept hg2.below
  have HBy2 : Hid (BytesAt w2 ao ((b.drop p).take 10)) := HBy.out.kept hg2.below
  have HB2 : Hid (w2.heap[w.heap.size + 1]? = some (.cells #[.int .i64 0, .int .i64 0] 89 (0, 0))) := (hg2.heap (Array.getElem?_eq_some_iff.1 HB1.out.2).1).trans HB1.out.2
  clear hg2 k1 HR1 HBy HB1
  go_wp2_with fail
  refine (fromBytes_any w2 ao cap 10 ((b.drop p).take 10) HZl.out.symm HBy2.out HCap.out (by unfold maxLen; omega)).mono ?_
  rintro e3 w3 ⟨rfl, hg3⟩
  have HR3 : Hid (Reads w r a c b (p + 10) 0 w3) := HR2.out.kept hg3.below
  have HB3 : Hid (w3.heap[w.heap.size + 1]? = some (.cells #[.int .i64 0, .int .i64 0] 89 (0, 0))) := (hg3.heap (Array.getElem?_eq_some_iff.1 HB2.out).1).trans HB2.out
  clear hg3 HR2 HBy2 HB2
  obtain ⟨kk, hkk⟩ : ∃ kk, kk = fromK ((b.drop p).take 10) := ⟨_, rfl⟩
  have HKK : Hid (fromK ((b.drop p).take 10) = kk) := hkk.symm
  rw [← hkk]
  clear hkk
  obtain ⟨k1, k2⟩ := kk
  generalize fromE ((b.drop p).take 10) = fe at *
  have HR4 : Hid (Reads w r a c b (p + 10) 0 (w3.alloc (.cells #[.int .i64 k1, .int .i64 k2] 89))) := HR3.out.alloc _
  have HB4 : Hid ((w3.alloc (.cells #[.int .i64 k1, .int .i64 k2] 89)).heap[w.heap.size + 1]? = some (.cells #[.int .i64 0, .int .i64 0] 89 (0, 0))) := (heap_alloc_old _ _ (Array.getElem?_eq_some_iff.1 HB3.out).1).trans HB3.out
  have m0 : (w3.alloc (.cells #[.int .i64 k1, .int .i64 k2] 89)).cell? ⟨w3.heap.size, 0, none⟩ = some (.int .i64 k1) := cell_new _ _ _ 0 _ rfl
  have m1 : (w3.alloc (.cells #[.int .i64 k1, .int .i64 k2] 89)).cell? ⟨w3.heap.size, 1, none⟩ = some (.int .i64 k2) := cell_new _ _ _ 1 _ rfl
  go_upto_region 4 with fail
  generalize w3.alloc (.cells #[.int .i64 k1, .int .i64 k2] 89) = W4 at *
  have n0 : W4.cell? ⟨w.heap.size + 1, 0, none⟩ = some (.int .i64 0) := by simp [World.cell?, HB4.out]
  have n1 : W4.cell? ⟨w.heap.size + 1, 1, none⟩ = some (.int .i64 0) := by simp [World.cell?, HB4.out]
  have f0 := frozen_of_row W4 (w.heap.size + 1) 0 _ _ HB4.out
  have f1 := frozen_of_row W4 (w.heap.size + 1) 1 _ _ HB4.out
  have hld := ldKey W4 (w.heap.size + 1) _ _ k1 k2 HB4.out
  have HF : Hid (Reads w r a c b (p + 10) 0 ((W4.setCell ⟨w.heap.size + 1, 0, none⟩ (.int .i64 k1)).setCell ⟨w.heap.size + 1, 1, none⟩ (.int .i64 k2))) := (HR4.out.setNew H0.out _ 0 _ (by omega)).setNew H0.out _ 1 _ (by omega)
  have HLd : Hid ((loadVar 89 ⟨w.heap.size + 1, 0, none⟩).run Tryz.prog ((W4.setCell ⟨w.heap.size + 1, 0, none⟩ (.int .i64 k1)).setCell ⟨w.heap.size + 1, 1, none⟩ (.int .i64 k2)) = .ok (.agg #[.int .i64 k1, .int .i64 k2]) ((W4.setCell ⟨w.heap.size + 1, 0, none⟩ (.int .i64 k1)).setCell ⟨w.heap.size + 1, 1, none⟩ (.int .i64 k2))) := hld
  clear hld HR4 HB4
  go_wp2
  refine bodyPost_ret (v := .agg #[.int .i64 k1, .int .i64 k2]) ?_ rfl ⟨by rw [HKK.out], HF.out⟩
  simp [results, Tryz.results98, asAddr, HLd.out]

set_option maxRecDepth 100000 in
set_option maxHeartbeats 1000000 in
theorem key_bad (w : World) (r : Nat) (a : Option Addr) (c : Nat) (b : List Nat) (p : Nat) (h : IsReader w r a c b p 0) (hp : ¬ p + 10 ≤ b.length) :
    Calls Tryz.prog 98 #[rdv r] w fun e' w' => e' = .panicked (flt p 10) ∧ w.grownBy w' (some r) := by
  have HR : Hid (Reads w r a c b p 0 ((w.alloc (.cells #[.pointer (some ⟨r, 0, none⟩)] 116)).alloc (.cells #[.int .i64 0, .int .i64 0] 89))) := Reads.alloc (Reads.alloc ⟨h, World.grownBy.refl _ _⟩ _) _
  have HB0 : Hid (((w.alloc (.cells #[.pointer (some ⟨r, 0, none⟩)] 116)).alloc (.cells #[.int .i64 0, .int .i64 0] 89)).heap[w.heap.size]? = some (.cells #[.pointer (some ⟨r, 0, none⟩)] 116 (0, 0))) := (heap_alloc_old _ _ (by simp)).trans (heap_alloc_new _ _ rfl)
  have HQ : Hid (rdRaw b p 0 10 = ([], p, 10)) := by
    have := h.2.2.1
    unfold rdRaw
    rw [if_neg (by simp), if_neg (by omega), if_pos (by omega)]; rfl
  have HLt : Hid (r < w.heap.size) := h.lt
  clear h hp
  go_enter Tryz.func98, Tryz.ntmps98
  go_upto_region 1 with fail
  generalize (w.alloc (.cells #[.pointer (some ⟨r, 0, none⟩)] 116)).alloc (.cells #[.int .i64 0, .int .i64 0] 89) = W0 at *
  have k0 : W0.cell? ⟨w.heap.size, 0, none⟩ = some (.pointer (some ⟨r, 0, none⟩)) := by simp [World.cell?, HB0.out]
  go_wp2_with fail
  refine (rRaw_any W0 r a c b p 0 10 HR.out.1).mono ?_
  rintro e1 w1 ⟨v, rfl, _, hr1⟩
  rw [HQ.out] at hr1
  have hs0 : w.heap.size < W0.heap.size := (Array.getElem?_eq_some_iff.1 HB0.out).1
  have HB1 : Hid (w1.heap[w.heap.size]? = some (.cells #[.pointer (some ⟨r, 0, none⟩)] 116 (0, 0))) := (block_reads hr1 (by omega) (by have := HLt.out; omega)).trans HB0.out
  have HR1 : Hid (Reads w r a c b p 10 w1) := HR.out.trans hr1
  clear hr1 k0 HR HB0 hs0
  have k1 : w1.cell? ⟨w.heap.size, 0, none⟩ = some (.pointer (some ⟨r, 0, none⟩)) := by simp [World.cell?, HB1.out]
  go_wp2_with fail
  refine (look_bad w1 r a c b p 10 HR1.out.1 (by omega)).mono ?_
  rintro e2 w2 ⟨rfl, hg2⟩
  have HR2 : Hid (w.grownBy w2 (some r)) := (HR1.out.kept hg2.below).2
  clear hg2 k1 HR1 HB1
  go_wp2
  exact ⟨rfl, rfl, HR2.out⟩

/-- what a reading hands back -/
def RdPost {α : Type} (w : World) (r : Nat) (a : Option Addr) (c : Nat) (b : List Nat) (R : Rd α) (ok : α → Value → World → Prop) (e' : Ending) (w' : World) : Prop :=
  match R with
  | .ok (x, q) => ∃ v, e' = .returned v ∧ Reads w r a c b q 0 w' ∧ ok x v w'
  | .error (q, x) => e' = .panicked (flt q x) ∧ w.grownBy w' (some r)
theorem RdPost.good {α : Type} {w w' : World} {r : Nat} {a : Option Addr} {c : Nat} {b : List Nat} {R : Rd α} {ok : α → Value → World → Prop} {x : α} {q : Nat} {v : Value} (hR : R = .ok (x, q)) (h : Reads w r a c b q 0 w') (k : ok x v w') : RdPost w r a c b R ok (.returned v) w' := by
  rw [hR]; exact ⟨v, rfl, h, k⟩
theorem RdPost.fails {α : Type} {w w' : World} {r : Nat} {a : Option Addr} {c : Nat} {b : List Nat} {R : Rd α} {ok : α → Value → World → Prop} {x : Int} {q : Nat} (hR : R = .error (q, x)) (h : w.grownBy w' (some r)) : RdPost w r a c b R ok (.panicked (flt q x)) w' := by
  rw [hR]; exact ⟨rfl, h⟩
/-- a row of numbers that a call has made -/
def Own64 (w0 : World) (A : List Int) (v : Value) (w' : World) : Prop := ∃ g, v = .slice (some ⟨g, 0, none⟩) A.length A.length ∧ R64 w' g A ∧ w0.heap.size ≤ g
structure AS (w W : World) (r : Nat) (a : Option Addr) (c : Nat) (b : List Nat) (q g n : Nat) (A : List Int) : Prop where
  rd : Reads w r a c b q 0 W
  box : W.heap[w.heap.size]? = some (.cells #[.pointer (some ⟨r, 0, none⟩)] 116 (0, 0))
  row : R64 W g (A ++ List.replicate (n - A.length) 0)
  gt : w.heap.size < g
  rlt : r < w.heap.size
theorem AS.cell {w W : World} {r : Nat} {a : Option Addr} {c : Nat} {b : List Nat} {q g n : Nat} {A : List Int} (h : AS w W r a c b q g n A) : W.cell? ⟨w.heap.size, 0, none⟩ = some (.pointer (some ⟨r, 0, none⟩)) := by simp [World.cell?, h.box]
theorem setA {A : List Int} {n k : Nat} {z : Int} (hk : A.length = k) (hn : k < n) : (A ++ List.replicate (n - A.length) 0).set k z = (A ++ [z]) ++ List.replicate (n - (A ++ [z]).length) 0 := by
  rw [List.set_append_right _ _ (by omega), hk, Nat.sub_self, show n - k = (n - (k + 1)) + 1 by omega, List.replicate_succ, List.set_cons_zero]
  simp [hk]
/-- behind Int and the store -/
theorem AS.put {w W W1 : World} {r p0 : Nat} {a : Option Addr} {c : Nat} {b : List Nat} {q g n k q1 : Nat} {e1 : Int} {A : List Int} (h : AS w W r a c b q g n A) (h0 : IsReader w r a c b p0 0) (hr : Reads W r a c b q1 e1 W1) (z : Int) (hk : A.length = k) (hn : k < n) :
    R64 W1 g (A ++ List.replicate (n - A.length) 0) ∧ Reads w r a c b q1 e1 (W1.setCell ⟨g, k, none⟩ (.int .i64 z)) ∧ (W1.setCell ⟨g, k, none⟩ (.int .i64 z)).heap[w.heap.size]? = some (.cells #[.pointer (some ⟨r, 0, none⟩)] 116 (0, 0)) ∧ R64 (W1.setCell ⟨g, k, none⟩ (.int .i64 z)) g ((A ++ [z]) ++ List.replicate (n - (A ++ [z]).length) 0) := by
  have hgt := h.gt
  have hrl := h.rlt
  have hb := (Array.getElem?_eq_some_iff.1 h.box).1
  have hrow : R64 W1 g (A ++ List.replicate (n - A.length) 0) := h.row.same (block_reads hr h.row.lt (by omega))
  refine ⟨hrow, (h.rd.trans hr).setNew h0 g k _ (by omega), ?_, ?_⟩
  · rw [heap_setCell_other W1 ⟨g, k, none⟩ w.heap.size _ (by show w.heap.size ≠ g; omega)]
    exact (block_reads hr hb (by omega)).trans h.box
  · have := hrow.set k z
    rw [setA hk hn] at this
    exact this
theorem AS.kept {w W W1 : World} {r : Nat} {a : Option Addr} {c : Nat} {b : List Nat} {q g n : Nat} {A : List Int} (h : AS w W r a c b q g n A) (hb : Below W.heap.size W W1) : AS w W1 r a c b q g n A :=
  ⟨h.rd.kept hb, (hb.block _ (Array.getElem?_eq_some_iff.1 h.box).1).trans h.box, h.row.same (hb.block _ h.row.lt), h.gt, h.rlt⟩

set_option maxRecDepth 100000 in
set_option maxHeartbeats 2000000 in
theorem args_r (w : World) (r : Nat) (a : Option Addr) (c : Nat) (b : List Nat) (p : Nat) (h : IsReader w r a c b p 0) :
    Calls Tryz.prog 89 #[rdv r] w fun e' w' => RdPost w r a c b (argR b p) (Own64 w) e' w' := by
  have H0 : Hid (IsReader w r a c b p 0) := h
  have HR : Hid (Reads w r a c b p 0 (w.alloc (.cells #[.pointer (some ⟨r, 0, none⟩)] 116))) := Reads.alloc ⟨h, World.grownBy.refl _ _⟩ _
  have HB0 : Hid ((w.alloc (.cells #[.pointer (some ⟨r, 0, none⟩)] 116)).heap[w.heap.size]? = some (.cells #[.pointer (some ⟨r, 0, none⟩)] 116 (0, 0))) := heap_alloc_new _ _ rfl
  have HLt : Hid (r < w.heap.size) := h.lt
  have HA : Hid (argR b p = match upR b 16 p with | .ok (n, q) => argsR b n [] q | .error x => .error x) := rfl
  clear h
  generalize argR b p = TT at *
  go_enter Tryz.func89, Tryz.ntmps89
  go_upto_region 1 with fail
  generalize w.alloc (.cells #[.pointer (some ⟨r, 0, none⟩)] 116) = W0 at *
  have k0 : W0.cell? ⟨w.heap.size, 0, none⟩ = some (.pointer (some ⟨r, 0, none⟩)) := by simp [World.cell?, HB0.out]
  cases hu : upR b 16 p with
  | error x =>
    obtain ⟨q, x⟩ := x
    have HT : Hid (TT = .error (q, x)) := by rw [HA.out, hu]; rfl
    have HU : Hid (upR b 16 p = .error (q, x)) := hu
    clear hu HA
    go_wp2_with fail
    refine (upto_bad W0 r a c b p 16 q x HR.out.1 HU.out).mono ?_
    rintro e1 w1 ⟨rfl, hg1⟩
    have HF : Hid (RdPost w r a c b TT (Own64 w) (.panicked (flt q x)) w1) := RdPost.fails HT.out (grown_trans' HR.out.2 hg1)
    clear hg1
    go_wp2
    exact ⟨rfl, HF.out⟩
  | ok x =>
    obtain ⟨n, q⟩ := x
    have HU : Hid (upR b 16 p = .ok (n, q)) := hu
    have HT : Hid (argsR b n [] q = TT) := by rw [HA.out, hu]; rfl
    clear hu HA
    go_wp2_with fail
    refine (upto_ok W0 r a c b p 16 n q HR.out.1 (by omega) HU.out).mono ?_
    rintro e1 w1 ⟨rfl, hr1, hn⟩
    have HB1 : Hid (w1.heap[w.heap.size]? = some (.cells #[.pointer (some ⟨r, 0, none⟩)] 116 (0, 0))) := (block_reads hr1 (Array.getElem?_eq_some_iff.1 HB0.out).1 (by have := HLt.out; omega)).trans HB0.out
    have HR1 : Hid (Reads w r a c b q 0 w1) := HR.out.trans hr1
    have hmk := make_nums n (n : Int) rfl (by omega)
    clear hr1 HR HB0 k0
    have HS0 : Hid (AS w (w1.alloc (.cells (cellsI (List.replicate n 0)) 2)) r a c b q w1.heap.size n []) := ⟨HR1.out.alloc _, (heap_alloc_old _ _ (Array.getElem?_eq_some_iff.1 HB1.out).1).trans HB1.out, by rw [List.nil_append, List.length_nil, Nat.sub_zero]; exact heap_alloc_new _ _ rfl, (Array.getElem?_eq_some_iff.1 HB1.out).1, HLt.out⟩
    go_upto_region 2 with fail
    generalize w1.alloc (.cells (cellsI (List.replicate n 0)) 2) = W1 at *
    generalize w1.heap.size = g at *
    clear hmk HR1 HB1
    go_wp2_with fail
    go_loopw [10] (fun x wr => ∃ (k q : Nat) (A : List Int), k ≤ n ∧ x = .int .i64 (k : Int) ∧ A.length = k ∧ Hid (AS w wr r a c b q g n A) ∧ Hid (argsR b (n - k) A q = TT)) (fun x _ => n - (intOf x).toNat)
    case atStart => exact ⟨0, q, [], Nat.zero_le _, rfl, rfl, HS0, HT⟩
    case round =>
      clear HS0 HT HU q
      obtain ⟨k, q, A, hk, rfl, hA, HS, HT⟩ := hrel
      by_cases hlt : k < n
      · have k0 := HS.out.cell
        have HT2 : Hid (TT = match intR b q with | .ok (x, q1) => argsR b (n - (k + 1)) (A ++ [x]) q1 | .error x => .error x) := by
          rw [← HT.out, show n - k = (n - (k + 1)) + 1 by omega]; rfl
        have HI : Hid (intR b q = match upR b 18446744073709551615 q with | .ok (m, q1) => .ok (unfold m, q1) | .error x => .error x) := rfl
        clear HT
        generalize intR b q = IR at *
        cases hu : upR b 18446744073709551615 q with
        | error x =>
          obtain ⟨q1, x⟩ := x
          have HT : Hid (TT = .error (q1, x)) := by rw [HT2.out, HI.out, hu]; rfl
          have HU : Hid ((rdUpto b q 0 18446744073709551615).2 = (q1, x) ∧ x ≠ 0) := by
            unfold upR at hu
            split at hu
            · cases hu
            · rename_i h0
              simp only [Except.error.injEq, Prod.mk.injEq] at hu
              obtain ⟨rfl, rfl⟩ := hu
              exact ⟨rfl, h0⟩
          clear hu HT2 HI
          go_wp2_with fail
          refine (rInt_any wr r a c b q 0 HS.out.rd.1).mono ?_
          rintro e2 w2 ⟨rfl, hr2⟩
          rw [HU.out.1] at hr2
          generalize unfold (rdUpto b q 0 18446744073709551615).1 = z at *
          have hp := HS.out.put H0.out hr2 z hA hlt
          have e1 := hp.1.cell k (by simp [hA]; omega)
          have f1 := hp.1.frozen k
          have HP : Hid (Reads w r a c b q1 x (w2.setCell ⟨g, k, none⟩ (.int .i64 z)) ∧ (w2.setCell ⟨g, k, none⟩ (.int .i64 z)).cell? ⟨w.heap.size, 0, none⟩ = some (.pointer (some ⟨r, 0, none⟩))) := ⟨hp.2.1, by simp [World.cell?, hp.2.2.1]⟩
          clear hp hr2 k0 HS
          go_upto_region 6 with fail
          generalize w2.setCell ⟨g, k, none⟩ (.int .i64 z) = W3 at *
          have k3 := HP.out.2
          clear e1 f1
          go_wp2_with fail
          refine (look_bad W3 r a c b q1 x HP.out.1.1 HU.out.2).mono ?_
          rintro e3 w4 ⟨rfl, hg4⟩
          have HF : Hid (RdPost w r a c b TT (Own64 w) (.panicked (flt q1 x)) w4) := RdPost.fails HT.out (HP.out.1.kept hg4.below).2
          clear hg4 k3
          go_wp2
          exact ⟨rfl, HF.out⟩
        | ok x =>
          obtain ⟨m, q1⟩ := x
          have HT : Hid (argsR b (n - (k + 1)) (A ++ [unfold m]) q1 = TT) := by rw [HT2.out, HI.out, hu]; rfl
          have HU : Hid (rdUpto b q 0 18446744073709551615 = (m, q1, 0)) := by
            unfold upR at hu
            split at hu
            · rename_i h0
              simp only [Except.ok.injEq, Prod.mk.injEq] at hu
              obtain ⟨rfl, rfl⟩ := hu
              exact Prod.ext rfl (Prod.ext rfl h0)
            · cases hu
          clear hu HT2 HI
          go_wp2_with fail
          refine (rInt_any wr r a c b q 0 HS.out.rd.1).mono ?_
          rintro e2 w2 ⟨rfl, hr2⟩
          rw [HU.out] at hr2 ⊢
          simp only at hr2 ⊢
          have hp := HS.out.put H0.out hr2 (unfold m) hA hlt
          have HSg : Hid (w.heap.size < g ∧ r < w.heap.size) := ⟨HS.out.gt, HS.out.rlt⟩
          generalize unfold m = z at *
          have e1 := hp.1.cell k (by simp [hA]; omega)
          have f1 := hp.1.frozen k
          have HP : Hid (AS w (w2.setCell ⟨g, k, none⟩ (.int .i64 z)) r a c b q1 g n (A ++ [z])) := ⟨hp.2.1, hp.2.2.1, hp.2.2.2, HSg.out.1, HSg.out.2⟩
          clear hp hr2 k0 HS
          go_upto_region 6 with fail
          generalize w2.setCell ⟨g, k, none⟩ (.int .i64 z) = W3 at *
          have k3 := HP.out.cell
          clear e1 f1
          go_wp2_with fail
          refine (look_ok W3 r a c b q1 HP.out.rd.1).mono ?_
          rintro e3 w4 ⟨rfl, hg4⟩
          have HS4 : Hid (AS w w4 r a c b q1 g n (A ++ [z])) := HP.out.kept hg4.below
          clear hg4 k3 HP
          go_wp2
          go_roundw
          case rel => exact ⟨k + 1, q1, A ++ [z], by omega, by go_num, by simp [hA], HS4, HT⟩
          case measure => simp [intOf]; omega
      · obtain rfl : k = n := by omega
        have HF : Hid (RdPost w r a c b TT (Own64 w) (.returned (.slice (some ⟨g, 0, none⟩) k k)) wr) := by
          have h1 := HT.out
          rw [Nat.sub_self] at h1
          refine RdPost.good (x := A) (q := q) h1.symm HS.out.rd ⟨g, by rw [hA], ?_, by have := HS.out.gt; omega⟩
          have h2 := HS.out.row
          rw [hA, Nat.sub_self, List.replicate_zero, List.append_nil] at h2
          exact h2
        clear HS HT
        go_wp2
        go_ret
        exact HF.out
end Go.Proofs.YtcaibgbhebldmaaGreat.Kk
