import Derived.Test.YtcaibgbhebldmaaGreatJ19
import Derived.Defers
import Derived.Recover
import Derived.Test.YtcaibgbhebldmaaGreatJ14
import Derived.Test.YtcaibgbhebldmaaGreatJ12
/-
  THE WALK OF Decode.
-/
namespace Go.Proofs.YtcaibgbhebldmaaGreat.Kk
open Go.RowKit Go.Sort

theorem kp1 {W : World} {b o g i : Nat} {u v : Value} (h : W.drew.cell? ⟨b, o, none⟩ = some u) (hb : ¬ b = g) : (W.setCell ⟨g, i, none⟩ v).drew.cell? ⟨b, o, none⟩ = some u := by
  have h2 := heap_setCell_other W ⟨g, i, none⟩ b v hb
  have h' : W.cell? ⟨b, o, none⟩ = some u := h
  show (W.setCell ⟨g, i, none⟩ v).cell? ⟨b, o, none⟩ = some u
  simp only [World.cell?] at h' ⊢
  rw [h2]; exact h'
/-- the deferred closure, where nothing is to be recovered -/
theorem catch_idle (p1 p2 p3 : Addr) (w : World) :
    CallsD Tryz.prog 47 #[.pointer (some p1), .pointer (some p2), .pointer (some p3)] .returning w fun e u' w' => e = .returned (.tuple #[]) ∧ u' = .returning ∧ w' = w := by
  refine callsD_of_wpS Tryz.func47 rfl fun c₀ cs hu => ?_
  apply wpS_seq
  apply wpS_region
  simp [wpOpsS, go_sem, recoverD, hu, Tryz.ntmps47, Exit.thenS]
  apply wpS_seq
  apply wpS_region
  simp [wpOpsS, go_sem, Exit.thenS]
  refine wpS_cond (t := false) (by simp [Act.eval, Array.replicate]) ?_
  simp only [Bool.false_eq_true, if_false]
  refine wpS_of_wp (wp_skip ?_)
  cases c₀
  simp_all [bodyPostS, results, Tryz.results47]

set_option maxRecDepth 100000 in
set_option maxHeartbeats 1000000 in
theorem catch_fault (b1 b2 b3 : Nat) (at_ e : Int) (older : List PanicEntry) (w : World) (x1 x2 x3 : Value) (T1 T2 T3 : TypeId) (h1 : w.heap[b1]? = some (.cells #[x1] T1 (0, 0))) (h2 : w.heap[b2]? = some (.cells #[x2] T2 (0, 0))) (h3 : w.heap[b3]? = some (.cells #[x3] T3 (0, 0))) (d12 : b1 ≠ b2) (d13 : b1 ≠ b3) (d23 : b2 ≠ b3) :
    CallsD Tryz.prog 47 #[.pointer (some ⟨b1, 0, none⟩), .pointer (some ⟨b2, 0, none⟩), .pointer (some ⟨b3, 0, none⟩)] (.panicking ({ v := .iface 112 (.agg #[.int .i64 at_, .int .i64 e]), recovered := false } :: older)) w fun e' u' w' =>
      e' = .returned (.tuple #[]) ∧ u' = .panicking ({ v := .iface 112 (.agg #[.int .i64 at_, .int .i64 e]), recovered := true } :: older) ∧
        w'.cell? ⟨b1, 0, none⟩ = some (.slice none 0 0) ∧ w'.cell? ⟨b2, 0, none⟩ = some (.int .i64 at_) ∧ w'.cell? ⟨b3, 0, none⟩ = some (.int .i64 e) ∧ (∀ k, k < w.heap.size → k ≠ b1 → k ≠ b2 → k ≠ b3 → w'.heap[k]? = w.heap[k]?) ∧ w.heap.size ≤ w'.heap.size ∧ w'.os = w.os ∧ w'.tape = w.tape ∧ w'.output = w.output := by
  refine callsD_of_wpS Tryz.func47 rfl fun c₀ cs hu => ?_
  apply wpS_seq
  apply wpS_region
  simp [wpOpsS, go_sem, recoverD, hu, Tryz.ntmps47, Exit.thenS]
  apply wpS_seq
  apply wpS_region
  simp [wpOpsS, go_sem, Exit.thenS]
  refine wpS_cond (t := true) (by simp [Act.eval, Array.replicate]) ?_
  simp only [if_true]
  refine wpS_of_wp ?_
  have HB : Hid (w.heap[b1]? = some (.cells #[x1] T1 (0, 0)) ∧ w.heap[b2]? = some (.cells #[x2] T2 (0, 0)) ∧ w.heap[b3]? = some (.cells #[x3] T3 (0, 0))) := ⟨h1, h2, h3⟩
  have l1 := (Array.getElem?_eq_some_iff.1 h1).1
  have l2 := (Array.getElem?_eq_some_iff.1 h2).1
  have l3 := (Array.getElem?_eq_some_iff.1 h3).1
  have HL : Hid (b1 < w.heap.size ∧ b2 < w.heap.size ∧ b3 < w.heap.size) := ⟨l1, l2, l3⟩
  clear h1 h2 h3 l1 l2 l3
  have hta : ∀ (w : World), (Instr.typeAssert (.iface 112 (.agg #[.int .i64 at_, .int .i64 e])) 20 112 false).run Tryz.prog w = .ok (.agg #[.int .i64 at_, .int .i64 e]) w := fun _ => by kernel_rfl
  have hrep : Array.replicate 11 undef = #[undef, undef, undef, undef, undef, undef, undef, undef, undef, undef, undef] := rfl
  simp only [hrep, List.setIfInBounds_toArray, List.set_cons_zero, List.set_cons_succ, List.append_toArray, List.cons_append, List.nil_append]
  clear hrep
  have HG : Hid (Grew w (w.alloc (.cells #[.int .i64 at_, .int .i64 e] 112))) := (Grew.refl _).alloc _
  have y0 : (w.alloc (.cells #[.int .i64 at_, .int .i64 e] 112)).cell? ⟨w.heap.size, 0, none⟩ = some (.int .i64 at_) := cell_new _ _ _ 0 _ rfl
  have y1 : (w.alloc (.cells #[.int .i64 at_, .int .i64 e] 112)).cell? ⟨w.heap.size, 1, none⟩ = some (.int .i64 e) := cell_new _ _ _ 1 _ rfl
  go_upto_region 3 with fail
  have HB2 : Hid ((w.alloc (.cells #[.int .i64 at_, .int .i64 e] 112)).drew.heap[b1]? = some (.cells #[x1] T1 (0, 0)) ∧ (w.alloc (.cells #[.int .i64 at_, .int .i64 e] 112)).drew.heap[b2]? = some (.cells #[x2] T2 (0, 0)) ∧ (w.alloc (.cells #[.int .i64 at_, .int .i64 e] 112)).drew.heap[b3]? = some (.cells #[x3] T3 (0, 0))) := ⟨(HG.out.heap HL.out.1).trans HB.out.1, (HG.out.heap HL.out.2.1).trans HB.out.2.1, (HG.out.heap HL.out.2.2).trans HB.out.2.2⟩
  generalize w.alloc (.cells #[.int .i64 at_, .int .i64 e] 112) = W1 at *
  have z0 : W1.drew.cell? ⟨w.heap.size, 0, none⟩ = some (.int .i64 at_) := y0
  have z1 : W1.drew.cell? ⟨w.heap.size, 1, none⟩ = some (.int .i64 e) := y1
  have c1 : W1.drew.cell? ⟨b1, 0, none⟩ = some x1 := by simp [World.cell?, HB2.out.1]
  have c2 : W1.drew.cell? ⟨b2, 0, none⟩ = some x2 := by simp [World.cell?, HB2.out.2.1]
  have c3 : W1.drew.cell? ⟨b3, 0, none⟩ = some x3 := by simp [World.cell?, HB2.out.2.2]
  have f1 := frozen_of_row W1.drew b1 0 _ _ HB2.out.1
  have f2 := frozen_of_row W1.drew b2 0 _ _ HB2.out.2.1
  have f3 := frozen_of_row W1.drew b3 0 _ _ HB2.out.2.2
  have n1 : ¬ w.heap.size = b1 := by have := HL.out; omega
  have n2 : ¬ w.heap.size = b2 := by have := HL.out; omega
  have n3 : ¬ w.heap.size = b3 := by have := HL.out; omega
  have d12' : ¬ b2 = b1 := fun e => d12 e.symm
  have d13' : ¬ b3 = b1 := fun e => d13 e.symm
  have d23' : ¬ b3 = b2 := fun e => d23 e.symm
  have c2' : (W1.setCell ⟨b1, 0, none⟩ (.slice none 0 0)).drew.cell? ⟨b2, 0, none⟩ = some x2 := kp1 c2 d12'
  have c3' : ((W1.setCell ⟨b1, 0, none⟩ (.slice none 0 0)).setCell ⟨b2, 0, none⟩ (.int .i64 at_)).drew.cell? ⟨b3, 0, none⟩ = some x3 := kp1 (kp1 c3 d13') d23'
  have r2 : (W1.setCell ⟨b1, 0, none⟩ (.slice none 0 0)).drew.heap[b2]? = some (.cells #[x2] T2 (0, 0)) := (heap_setCell_other W1 ⟨b1, 0, none⟩ b2 _ d12').trans HB2.out.2.1
  have r3 : ((W1.setCell ⟨b1, 0, none⟩ (.slice none 0 0)).setCell ⟨b2, 0, none⟩ (.int .i64 at_)).drew.heap[b3]? = some (.cells #[x3] T3 (0, 0)) := (heap_setCell_other (W1.setCell ⟨b1, 0, none⟩ (.slice none 0 0)) ⟨b2, 0, none⟩ b3 _ d23').trans ((heap_setCell_other W1 ⟨b1, 0, none⟩ b3 _ d13').trans HB2.out.2.2)
  have f2' := frozen_of_row _ b2 0 _ _ r2
  have f3' := frozen_of_row _ b3 0 _ _ r3
  clear y0 y1 r2 r3
  go_region_held3 (fun w' => w'.cell? ⟨w.heap.size, 0, none⟩ = some (.int .i64 at_) ∧ w'.cell? ⟨w.heap.size, 1, none⟩ = some (.int .i64 e)) (first | with_reducible exact ⟨kp1 z0 n1, kp1 z1 n1⟩ | with_reducible exact ⟨kp1 (kp1 z0 n1) n2, kp1 (kp1 z1 n1) n2⟩ | with_reducible exact ⟨kp1 (kp1 (kp1 z0 n1) n2) n3, kp1 (kp1 (kp1 z1 n1) n2) n3⟩ | go_keep) (fail)
  have hF : (((W1.setCell ⟨b1, 0, none⟩ (.slice none 0 0)).setCell ⟨b2, 0, none⟩ (.int .i64 at_)).setCell ⟨b3, 0, none⟩ (.int .i64 e)).drew.cell? ⟨b1, 0, none⟩ = some (.slice none 0 0) ∧ (((W1.setCell ⟨b1, 0, none⟩ (.slice none 0 0)).setCell ⟨b2, 0, none⟩ (.int .i64 at_)).setCell ⟨b3, 0, none⟩ (.int .i64 e)).drew.cell? ⟨b2, 0, none⟩ = some (.int .i64 at_) ∧ (((W1.setCell ⟨b1, 0, none⟩ (.slice none 0 0)).setCell ⟨b2, 0, none⟩ (.int .i64 at_)).setCell ⟨b3, 0, none⟩ (.int .i64 e)).drew.cell? ⟨b3, 0, none⟩ = some (.int .i64 e) ∧ (∀ k, k < w.heap.size → k ≠ b1 → k ≠ b2 → k ≠ b3 → (((W1.setCell ⟨b1, 0, none⟩ (.slice none 0 0)).setCell ⟨b2, 0, none⟩ (.int .i64 at_)).setCell ⟨b3, 0, none⟩ (.int .i64 e)).drew.heap[k]? = w.heap[k]?) ∧ w.heap.size ≤ (((W1.setCell ⟨b1, 0, none⟩ (.slice none 0 0)).setCell ⟨b2, 0, none⟩ (.int .i64 at_)).setCell ⟨b3, 0, none⟩ (.int .i64 e)).drew.heap.size ∧ (((W1.setCell ⟨b1, 0, none⟩ (.slice none 0 0)).setCell ⟨b2, 0, none⟩ (.int .i64 at_)).setCell ⟨b3, 0, none⟩ (.int .i64 e)).drew.os = w.os ∧ (((W1.setCell ⟨b1, 0, none⟩ (.slice none 0 0)).setCell ⟨b2, 0, none⟩ (.int .i64 at_)).setCell ⟨b3, 0, none⟩ (.int .i64 e)).drew.tape = w.tape ∧ (((W1.setCell ⟨b1, 0, none⟩ (.slice none 0 0)).setCell ⟨b2, 0, none⟩ (.int .i64 at_)).setCell ⟨b3, 0, none⟩ (.int .i64 e)).drew.output = w.output := by
    have s1 := heap_setCell_same W1 b1 0 _ _ (.slice none 0 0) HB2.out.1
    have s2 := heap_setCell_same (W1.setCell ⟨b1, 0, none⟩ (.slice none 0 0)) b2 0 _ _ (.int .i64 at_) ((heap_setCell_other W1 ⟨b1, 0, none⟩ b2 _ d12').trans HB2.out.2.1)
    have s3 := heap_setCell_same ((W1.setCell ⟨b1, 0, none⟩ (.slice none 0 0)).setCell ⟨b2, 0, none⟩ (.int .i64 at_)) b3 0 _ _ (.int .i64 e) ((heap_setCell_other (W1.setCell ⟨b1, 0, none⟩ (.slice none 0 0)) ⟨b2, 0, none⟩ b3 _ d23').trans ((heap_setCell_other W1 ⟨b1, 0, none⟩ b3 _ d13').trans HB2.out.2.2))
    have t1 : (((W1.setCell ⟨b1, 0, none⟩ (.slice none 0 0)).setCell ⟨b2, 0, none⟩ (.int .i64 at_)).setCell ⟨b3, 0, none⟩ (.int .i64 e)).heap[b1]? = _ := (heap_setCell_other _ ⟨b3, 0, none⟩ b1 _ d13).trans ((heap_setCell_other _ ⟨b2, 0, none⟩ b1 _ d12).trans s1)
    have t2 : (((W1.setCell ⟨b1, 0, none⟩ (.slice none 0 0)).setCell ⟨b2, 0, none⟩ (.int .i64 at_)).setCell ⟨b3, 0, none⟩ (.int .i64 e)).heap[b2]? = _ := (heap_setCell_other _ ⟨b3, 0, none⟩ b2 _ d23).trans s2
    have hb := HG.out.below
    refine ⟨?_, ?_, ?_, fun k hk k1 k2 k3 => ?_, ?_, hb.os, hb.tape, hb.output⟩
    · show World.cell? _ _ = _
      simp only [World.cell?, World.drew, t1]; rfl
    · show World.cell? _ _ = _
      simp only [World.cell?, World.drew, t2]; rfl
    · show World.cell? _ _ = _
      simp only [World.cell?, World.drew, s3]; rfl
    · exact (heap_setCell_other _ ⟨b3, 0, none⟩ k _ k3).trans ((heap_setCell_other _ ⟨b2, 0, none⟩ k _ k2).trans ((heap_setCell_other _ ⟨b1, 0, none⟩ k _ k1).trans (hb.block k hk)))
    · have h1 := hb.size
      simpa [World.drew] using h1
  clear c1 c2 c3 c2' c3' f1 f2 f3 f2' f3' z0 z1 hta HB2 HB HL HG
  generalize (((W1.setCell ⟨b1, 0, none⟩ (.slice none 0 0)).setCell ⟨b2, 0, none⟩ (.int .i64 at_)).setCell ⟨b3, 0, none⟩ (.int .i64 e)).drew = WF at *
  cases c₀
  simp_all +zetaDelta [bodyPostS, results, Tryz.results47]
end Go.Proofs.YtcaibgbhebldmaaGreat.Kk
/-
  THE WALKS OF layer 6's ints, keyList.
-/
namespace Go.Proofs.YtcaibgbhebldmaaGreat.Kk
open Go.RowKit Go.Sort

def pad3 (k : Nat) : List Int := (List.range 3).map fun j => if j < k then -31 else 0
theorem pad3_set : ∀ k, k < 3 → (pad3 k).set k (-31) = pad3 (k + 1) := by decide
theorem pad3_len (k : Nat) : (pad3 k).length = 3 := by simp [pad3]
theorem pad3_zero : List.replicate 3 (0 : Int) = pad3 0 := by decide
def padK3 (k : Nat) : List K := (List.range 3).map fun j => if j < k then (-31, 0) else (0, 0)
theorem padK3_set : ∀ k, k < 3 → (padK3 k).set k (-31, 0) = padK3 (k + 1) := by decide
theorem padK3_len (k : Nat) : (padK3 k).length = 3 := by simp [padK3]
theorem padK3_zero : List.replicate 3 ((0, 0) : K) = padK3 0 := by decide
theorem lentI_set (L : List Int) (k : Nat) (hk : k < 3) : (L ++ pad3 k).set (L.length + k) (-31) = L ++ pad3 (k + 1) := by
  rw [List.set_append_right _ _ (by omega), show L.length + k - L.length = k by omega, pad3_set k hk]
theorem lentK_set (L : List K) (k : Nat) (hk : k < 3) : (L ++ padK3 k).set (L.length + k) (-31, 0) = L ++ padK3 (k + 1) := by
  rw [List.set_append_right _ _ (by omega), show L.length + k - L.length = k by omega, padK3_set k hk]
/-- a list that was lent: nil for nil, or a row of its own between lo and hi, with three more behind -/
def LnI (W : World) (lo hi : Nat) (ao a : Option Addr) (c : Nat) (A : List Int) : Prop :=
  (ao = none ∧ a = none ∧ c = 0 ∧ A = []) ∨ (ao ≠ none ∧ ∃ G, a = some ⟨G, 0, none⟩ ∧ c = A.length + 3 ∧ lo ≤ G ∧ G < hi ∧ R64 W G (A ++ pad3 3))
def LnK (W : World) (lo hi : Nat) (ao a : Option Addr) (c : Nat) (L : List K) : Prop :=
  (ao = none ∧ a = none ∧ c = 0 ∧ L = []) ∨ (ao ≠ none ∧ ∃ G, a = some ⟨G, 0, none⟩ ∧ c = L.length + 3 ∧ lo ≤ G ∧ G < hi ∧ RK W G (L ++ padK3 3))
theorem LnI.same {W W' : World} {lo hi : Nat} {ao a : Option Addr} {c : Nat} {A : List Int} (h : LnI W lo hi ao a c A) (hs : ∀ G, lo ≤ G → G < hi → G < W.heap.size → W'.heap[G]? = W.heap[G]?) : LnI W' lo hi ao a c A := by
  rcases h with h | ⟨h0, G, h1, h2, h3, h4, h5⟩
  · exact .inl h
  · exact .inr ⟨h0, G, h1, h2, h3, h4, h5.same (hs G h3 h4 h5.lt)⟩
theorem LnK.same {W W' : World} {lo hi : Nat} {ao a : Option Addr} {c : Nat} {A : List K} (h : LnK W lo hi ao a c A) (hs : ∀ G, lo ≤ G → G < hi → G < W.heap.size → W'.heap[G]? = W.heap[G]?) : LnK W' lo hi ao a c A := by
  rcases h with h | ⟨h0, G, h1, h2, h3, h4, h5⟩
  · exact .inl h
  · exact .inr ⟨h0, G, h1, h2, h3, h4, h5.same (hs G h3 h4 h5.lt)⟩
theorem LnI.wide {W : World} {lo hi lo' hi' : Nat} {ao a : Option Addr} {c : Nat} {A : List Int} (h : LnI W lo hi ao a c A) (h1 : lo' ≤ lo) (h2 : hi ≤ hi') : LnI W lo' hi' ao a c A := by
  rcases h with h | ⟨h0, G, e1, e2, e3, e4, e5⟩
  · exact .inl h
  · exact .inr ⟨h0, G, e1, e2, by omega, by omega, e5⟩
theorem LnK.wide {W : World} {lo hi lo' hi' : Nat} {ao a : Option Addr} {c : Nat} {A : List K} (h : LnK W lo hi ao a c A) (h1 : lo' ≤ lo) (h2 : hi ≤ hi') : LnK W lo' hi' ao a c A := by
  rcases h with h | ⟨h0, G, e1, e2, e3, e4, e5⟩
  · exact .inl h
  · exact .inr ⟨h0, G, e1, e2, by omega, by omega, e5⟩
theorem setRow_grown {w : World} {G : Nat} {o : Array Value} {t : TypeId} {c : Array Value} (hG : G = w.heap.size) : Below w.heap.size w ((w.alloc (.cells c t)).setRow G o) := by
  have h1 : Below w.heap.size w (w.alloc (.cells c t)) := (Below.refl _ w).alloc (Nat.le_refl _) _
  have h2 : Below w.heap.size (w.alloc (.cells c t)) ((w.alloc (.cells c t)).setRow G o) := ⟨rfl, rfl, rfl, by simp [World.setRow], fun k hk => by simp [World.setRow, Array.getElem?_modify, show G ≠ k by omega]⟩
  exact h1.trans h2
theorem bset {B G i : Nat} {w wr : World} (hb : Below B w wr) (v : Value) (h : B ≤ G) : Below B w (wr.setCell ⟨G, i, none⟩ v) := by
  have h2 : Below B wr (wr.setCell ⟨G, i, none⟩ v) := ⟨rfl, rfl, rfl, by simp, fun k hk => heap_setCell_other wr ⟨G, i, none⟩ k v (by simp; omega)⟩
  exact hb.trans h2

set_option maxHeartbeats 2000000 in
set_option maxRecDepth 100000 in
theorem ints_any (w : World) (ao : Option Addr) (n cap : Nat) (L : List Int) (h : NumsAt w ao L) (hn : n = L.length) (hm : n ≤ 1000000) :
    Calls Tryz.prog 31 #[.slice ao n cap] w fun e w' => ∃ a c, e = .returned (.slice a n c) ∧ LnI w' w.heap.size w'.heap.size ao a c L ∧ Below w.heap.size w w' := by
  have HL : Hid (NumsAt w ao L) := h
  have HN : Hid (n = L.length) := hn
  clear h hn
  cases ao with
  | none =>
    have hnil := eqNil64 none n cap
    have HE : Hid (L = [] ∧ n = 0) := by
      have e := CellsAt.nil HL.out
      simp at e
      exact ⟨e, by rw [HN.out, e]; rfl⟩
    obtain ⟨rfl, rfl⟩ := HE.out
    go_enter Tryz.func31, Tryz.ntmps31
    go_wp2
    go_ret
    exact ⟨none, 0, rfl, .inl ⟨rfl, rfl, rfl, rfl⟩, Below.refl _ _⟩
  | some a =>
    have hnil := eqNil64 (some a) n cap
    simp only [Option.isNone_some] at hnil
    have hmk := make_nums (n + 3) ((n : Int) + 3) (by omega) (by omega)
    go_enter Tryz.func31, Tryz.ntmps31
    have HG0 : Hid (Grew w (w.alloc (.cells (cellsI (List.replicate (n + 3) 0)) 2))) := (Grew.refl _).alloc _
    have HR0 : Hid (R64 (w.alloc (.cells (cellsI (List.replicate (n + 3) 0)) 2)) w.heap.size (List.replicate (n + 3) 0)) := heap_alloc_new _ _ rfl
    have hcp := fun ty => run_copy_nums (w.alloc (.cells (cellsI (List.replicate (n + 3) 0)) 2)) ty w.heap.size (n + 3) (n + 3) a n cap L (List.replicate (n + 3) 0) HN.out (by simp) (by omega) HR0.out (HL.out.kept HG0.out.below) (L ++ pad3 0) (by rw [List.drop_replicate, show n + 3 - n = 3 by omega, pad3_zero])
    go_wp2_with fail
    have HB : Hid (Below w.heap.size w ((w.alloc (.cells (cellsI (List.replicate (n + 3) 0)) 2)).setRow w.heap.size (cellsI (L ++ pad3 0)))) := setRow_grown rfl
    have HO : Hid (R64 ((w.alloc (.cells (cellsI (List.replicate (n + 3) 0)) 2)).setRow w.heap.size (cellsI (L ++ pad3 0))) w.heap.size (L ++ pad3 0)) := HR0.out.setRow _
    generalize ((w.alloc (.cells (cellsI (List.replicate (n + 3) 0)) 2)).setRow w.heap.size (cellsI (L ++ pad3 0))) = W1 at *
    obtain ⟨G, hG⟩ : ∃ G, G = w.heap.size := ⟨_, rfl⟩
    rw [← hG] at HO ⊢
    have HG : Hid (G = w.heap.size) := hG
    clear hG hcp hmk HR0 HG0
    go_loopw [4] (fun x wr => ∃ m : Nat, n ≤ m ∧ m ≤ n + 3 ∧ x = .int .i64 (m : Int) ∧ Hid (R64 wr G (L ++ pad3 (m - n))) ∧ Hid (Below w.heap.size w wr)) (fun x _ => n + 3 - (intOf x).toNat)
    case atStart => exact ⟨n, Nat.le_refl _, by omega, rfl, by rw [Nat.sub_self]; exact HO, HB⟩
    case round =>
      clear HO HB
      obtain ⟨m, hm1, hm2, rfl, HO, HB⟩ := hrel
      by_cases hlt : m < n + 3
      · have hltm : (m : Int) < (n : Int) + 3 := by omega
        have e1 := HO.out.cell m (by have := HN.out; rw [List.length_append, pad3_len]; omega)
        have f1 := HO.out.frozen m
        have HO2 : Hid (R64 (wr.setCell ⟨G, m, none⟩ (.int .i64 (-31))) G (L ++ pad3 (m + 1 - n)) ∧ Below w.heap.size w (wr.setCell ⟨G, m, none⟩ (.int .i64 (-31)))) := by
          have h1 := HO.out.set m (-31)
          have e : (L ++ pad3 (m - n)).set m (-31) = L ++ pad3 (m + 1 - n) := by
            have := lentI_set L (m - n) (by omega)
            rw [← HN.out, show n + (m - n) = m by omega, show m - n + 1 = m + 1 - n by omega] at this; exact this
          rw [e] at h1
          exact ⟨h1, bset HB.out _ (Nat.le_of_eq HG.out.symm)⟩
        clear HO HB
        go_wp2_with fail
        exact ⟨⟨m + 1, by omega, by omega, by go_num, HO2.out.1, HO2.out.2⟩, by simp [intOf]; omega⟩
      · obtain rfl : m = n + 3 := by omega
        rw [show n + 3 - n = 3 by omega] at HO
        have HF : Hid (LnI wr w.heap.size wr.heap.size (some a) (some ⟨G, 0, none⟩) (n + 3) L) := by
          have := HG.out
          exact .inr ⟨by simp, G, rfl, by rw [← HN.out], by omega, HO.out.lt, HO.out⟩
        clear HO
        go_wp2
        go_ret
        exact ⟨_, _, rfl, HF.out, HB.out⟩

set_option maxHeartbeats 2000000 in
set_option maxRecDepth 100000 in
theorem keyList_any (w : World) (ao : Option Addr) (n cap : Nat) (L : List K) (h : KeysAt w ao L) (hn : n = L.length) (hm : n ≤ 1000000) :
    Calls Tryz.prog 32 #[.slice ao n cap] w fun e w' => ∃ a c, e = .returned (.slice a n c) ∧ LnK w' w.heap.size w'.heap.size ao a c L ∧ Below w.heap.size w w' := by
  have HL : Hid (KeysAt w ao L) := h
  have HN : Hid (n = L.length) := hn
  clear h hn
  cases ao with
  | none =>
    have hnil := eqNilK none n cap
    have HE : Hid (L = [] ∧ n = 0) := by
      have e := KeysAt.nil HL.out
      exact ⟨e, by rw [HN.out, e]; rfl⟩
    obtain ⟨rfl, rfl⟩ := HE.out
    go_enter Tryz.func32, Tryz.ntmps32
    go_wp2
    go_ret
    exact ⟨none, 0, rfl, .inl ⟨rfl, rfl, rfl, rfl⟩, Below.refl _ _⟩
  | some a =>
    have hnil := eqNilK (some a) n cap
    simp only [Option.isNone_some] at hnil
    have hmk := make_keys (n + 3) ((n : Int) + 3) (by omega) (by omega)
    go_enter Tryz.func32, Tryz.ntmps32
    have HG0 : Hid (Grew w (w.alloc (.cells (cks (List.replicate (n + 3) (0, 0))).toArray 89))) := (Grew.refl _).alloc _
    have HR0 : Hid (RK (w.alloc (.cells (cks (List.replicate (n + 3) (0, 0))).toArray 89)) w.heap.size (List.replicate (n + 3) (0, 0))) := heap_alloc_new _ _ rfl
    have hcp := fun ty => run_copy_keys (w.alloc (.cells (cks (List.replicate (n + 3) (0, 0))).toArray 89)) ty w.heap.size (n + 3) (n + 3) a n cap L (List.replicate (n + 3) (0, 0)) HN.out (by simp) (by omega) HR0.out (HL.out.kept HG0.out.below) (L ++ padK3 0) (by rw [List.drop_replicate, show n + 3 - n = 3 by omega, padK3_zero])
    go_wp2_with fail
    have HB : Hid (Below w.heap.size w ((w.alloc (.cells (cks (List.replicate (n + 3) (0, 0))).toArray 89)).setRow w.heap.size (cks (L ++ padK3 0)).toArray)) := setRow_grown rfl
    have HO : Hid (RK ((w.alloc (.cells (cks (List.replicate (n + 3) (0, 0))).toArray 89)).setRow w.heap.size (cks (L ++ padK3 0)).toArray) w.heap.size (L ++ padK3 0)) := HR0.out.setRow _
    generalize ((w.alloc (.cells (cks (List.replicate (n + 3) (0, 0))).toArray 89)).setRow w.heap.size (cks (L ++ padK3 0)).toArray) = W1 at *
    obtain ⟨G, hG⟩ : ∃ G, G = w.heap.size := ⟨_, rfl⟩
    rw [← hG] at HO ⊢
    have HG : Hid (G = w.heap.size) := hG
    clear hG hcp hmk HR0 HG0
    go_loopw [4] (fun x wr => ∃ m : Nat, n ≤ m ∧ m ≤ n + 3 ∧ x = .int .i64 (m : Int) ∧ Hid (RK wr G (L ++ padK3 (m - n))) ∧ Hid (Below w.heap.size w wr)) (fun x _ => n + 3 - (intOf x).toNat)
    case atStart => exact ⟨n, Nat.le_refl _, by omega, rfl, by rw [Nat.sub_self]; exact HO, HB⟩
    case round =>
      clear HO HB
      obtain ⟨m, hm1, hm2, rfl, HO, HB⟩ := hrel
      by_cases hlt : m < n + 3
      · have hltm : (m : Int) < (n : Int) + 3 := by omega
        have hml : m < (L ++ padK3 (m - n)).length := by have := HN.out; rw [List.length_append, padK3_len]; omega
        obtain ⟨e1, e2⟩ := HO.out.cell m hml
        have f1 := HO.out.frozen (m * 2)
        have f2 := HO.out.frozen (m * 2 + 1)
        have HO2 : Hid (RK ((wr.setCell ⟨G, m * 2, none⟩ (.int .i64 (-31))).setCell ⟨G, m * 2 + 1, none⟩ (.int .i64 0)) G (L ++ padK3 (m + 1 - n)) ∧ Below w.heap.size w ((wr.setCell ⟨G, m * 2, none⟩ (.int .i64 (-31))).setCell ⟨G, m * 2 + 1, none⟩ (.int .i64 0))) := by
          have h1 := HO.out.set m (-31) 0 hml
          have e : (L ++ padK3 (m - n)).set m (-31, 0) = L ++ padK3 (m + 1 - n) := by
            have := lentK_set L (m - n) (by omega)
            rw [← HN.out, show n + (m - n) = m by omega, show m - n + 1 = m + 1 - n by omega] at this; exact this
          rw [e] at h1
          exact ⟨h1, bset (bset HB.out _ (Nat.le_of_eq HG.out.symm)) _ (Nat.le_of_eq HG.out.symm)⟩
        clear HO HB hml
        go_wp2_with fail
        exact ⟨⟨m + 1, by omega, by omega, by go_num, HO2.out.1, HO2.out.2⟩, by simp [intOf]; omega⟩
      · obtain rfl : m = n + 3 := by omega
        rw [show n + 3 - n = 3 by omega] at HO
        have HF : Hid (LnK wr w.heap.size wr.heap.size (some a) (some ⟨G, 0, none⟩) (n + 3) L) := by
          have := HG.out
          exact .inr ⟨by simp, G, rfl, by rw [← HN.out], by omega, HO.out.lt, HO.out⟩
        clear HO
        go_wp2
        go_ret
        exact ⟨_, _, rfl, HF.out, HB.out⟩
end Go.Proofs.YtcaibgbhebldmaaGreat.Kk
/-
  Decode.
-/
namespace Go.Proofs.YtcaibgbhebldmaaGreat.Kk
open Go.RowKit Go.Sort

def DecPost (w : World) (zs : List Nat) (e' : Ending) (w' : World) : Prop :=
  match decR zs with
  | .ok Ts => ∃ v, e' = .returned (.tuple #[v, .int .i64 0, .int .i64 0]) ∧ OwnBat w Ts v w' ∧ Below w.heap.size w w'
  | .error (q, x) => e' = .returned (.tuple #[.slice none 0 0, .int .i64 (q : Int), .int .i64 x]) ∧ Below w.heap.size w w'
/-- the three named results -/
structure D3 (w W : World) (v1 v2 v3 : Value) : Prop where
  b1 : W.heap[w.heap.size]? = some (.cells #[v1] 31 (0, 0))
  b2 : W.heap[w.heap.size + 1]? = some (.cells #[v2] 3 (0, 0))
  b3 : W.heap[w.heap.size + 1 + 1]? = some (.cells #[v3] 28 (0, 0))
  bel : Below w.heap.size w W
theorem D3.new (w : World) : D3 w (((w.alloc (.cells #[.slice none 0 0] 31)).alloc (.cells #[.int .i64 0] 3)).alloc (.cells #[.int .i64 0] 28)) (.slice none 0 0) (.int .i64 0) (.int .i64 0) :=
  ⟨(heap_alloc_old _ _ (by simp; omega)).trans ((heap_alloc_old _ _ (by simp)).trans (heap_alloc_new _ _ rfl)), (heap_alloc_old _ _ (by simp)).trans (heap_alloc_new _ _ (by simp)), heap_alloc_new _ _ (by simp), (((Below.refl _ _).alloc (Nat.le_refl _) _).alloc (by simp) _).alloc (by simp; omega) _⟩
theorem D3.kept {w W W' : World} {v1 v2 v3 : Value} (h : D3 w W v1 v2 v3) (hs : ∀ k, k < W.heap.size → k ≤ w.heap.size + 1 + 1 → W'.heap[k]? = W.heap[k]?) (hz : W.heap.size ≤ W'.heap.size) (ho : W'.os = W.os) (ht : W'.tape = W.tape) (hu : W'.output = W.output) : D3 w W' v1 v2 v3 :=
  ⟨(hs _ (Array.getElem?_eq_some_iff.1 h.b1).1 (by omega)).trans h.b1, (hs _ (Array.getElem?_eq_some_iff.1 h.b2).1 (by omega)).trans h.b2, (hs _ (Array.getElem?_eq_some_iff.1 h.b3).1 (by omega)).trans h.b3,
    ⟨ho.trans h.bel.os, ht.trans h.bel.tape, hu.trans h.bel.output, Nat.le_trans h.bel.size hz, fun k hk => (hs k (Nat.lt_of_lt_of_le hk h.bel.size) (by omega)).trans (h.bel.block k hk)⟩⟩

set_option maxRecDepth 100000 in
set_option maxHeartbeats 1000000 in
theorem decode_b (w : World) (ao : Option Addr) (n cap : Nat) (zs : List Nat) (hn : n = zs.length) (h : BytesAt w ao zs) (hm : n ≤ 140737488355328) :
    Calls Tryz.prog 22 #[.slice ao n cap] w fun e' w' => DecPost w zs e' w' := by
  have hmf : ∀ (fn : Fn) (first cap : Array Value) (w : World), (Instr.makeFunc fn first cap).run Tryz.prog w = .ok (.func fn first cap) w := fun _ _ _ _ => rfl
  have HB : Hid (BytesAt w ao zs ∧ n = zs.length) := ⟨h, hn⟩
  have HD0 : Hid (D3 w _ _ _ _) := D3.new w
  clear h hn
  go_enter_defers Tryz.func22, Tryz.ntmps22
  go_wp2_with fail
  generalize ((w.alloc (.cells #[.slice none 0 0] 31)).alloc (.cells #[.int .i64 0] 3)).alloc (.cells #[.int .i64 0] 28) = W0 at *
  refine (read_any W0 ao cap n zs HB.out.2 (HB.out.1.kept HD0.out.bel) (by omega)).mono ?_
  rintro e w1 ⟨rfl, hrd, hb1, hs1⟩
  have HZ : Hid (w.heap.size + 1 + 1 < W0.heap.size) := (Array.getElem?_eq_some_iff.1 HD0.out.b3).1
  have HR1 : Hid (IsReader w1 (W0.heap.size + 1) (some ⟨W0.heap.size, 0, none⟩) n zs 0 0) := hrd
  have HD1 : Hid (D3 w w1 (.slice none 0 0) (.int .i64 0) (.int .i64 0)) := HD0.out.kept (fun k hk _ => hb1.block k hk) hb1.size hb1.os hb1.tape hb1.output
  clear hrd hb1 hs1 HD0
  obtain ⟨r, hr⟩ : ∃ r, r = W0.heap.size + 1 := ⟨_, rfl⟩
  rw [← hr] at HR1 ⊢
  have HRr : Hid (w.heap.size + 1 + 1 < r) := by rw [hr]; have := HZ.out; simp only [Hid]; omega
  have HRa : Hid (∀ k, (Value.slice (some ⟨W0.heap.size, 0, none⟩) zs.length n).ownBlock = some k → w.heap.size + 1 + 1 < k) := fun k e => by cases e; exact HZ.out
  clear hr HZ
  generalize (some ⟨W0.heap.size, 0, none⟩ : Option Addr) = ra at *
  have HR2 : Hid (IsReader (w1.alloc (.cells #[.pointer (some ⟨r, 0, none⟩)] 116)) r ra n zs 0 0) := HR1.out.kept ((Below.refl _ _).alloc (Nat.le_refl _) _)
  have HD2 : Hid (D3 w (w1.alloc (.cells #[.pointer (some ⟨r, 0, none⟩)] 116)) (.slice none 0 0) (.int .i64 0) (.int .i64 0)) := HD1.out.kept (fun k hk _ => heap_alloc_old _ _ hk) (by simp) rfl rfl rfl
  have HX2 : Hid ((w1.alloc (.cells #[.pointer (some ⟨r, 0, none⟩)] 116)).heap[w1.heap.size]? = some (.cells #[.pointer (some ⟨r, 0, none⟩)] 116 (0, 0)) ∧ w.heap.size + 1 + 1 < w1.heap.size ∧ r < w1.heap.size) := ⟨heap_alloc_new _ _ rfl, (Array.getElem?_eq_some_iff.1 HD1.out.b3).1, HR1.out.lt⟩
  go_upto_region 3 with fail
  generalize w1.alloc (.cells #[.pointer (some ⟨r, 0, none⟩)] 116) = W2 at *
  generalize w1.heap.size = B5 at *
  have k0 : W2.cell? ⟨B5, 0, none⟩ = some (.pointer (some ⟨r, 0, none⟩)) := by simp [World.cell?, HX2.out.1]
  have HC : Hid (Calls Tryz.prog 49 #[rdv r] W2 fun e' w' => RdPost W2 r ra n zs (batR zs 0) (OwnBat W2) e' w') := batch_r W2 r ra n zs 0 HR2.out
  have HDc : Hid (decR zs = match batR zs 0 with | .error x => .error x | .ok (T, p) => if p = zs.length then .ok T else .error (p, 11)) := rfl
  clear HR1 HD1
  cases hu : batR zs 0 with
  | error x =>
    obtain ⟨q, x⟩ := x
    have HT : Hid (decR zs = .error (q, x)) := by rw [HDc.out, hu]; rfl
    rw [hu] at HC
    clear hu HDc
    go_wp2_with fail
    refine HC.out.mono ?_
    rintro e1 w3 ⟨rfl, hg3⟩
    have HD3 : Hid (D3 w w3 (.slice none 0 0) (.int .i64 0) (.int .i64 0)) := HD2.out.kept (fun k hk h1 => hg3.block k hk (fun e => by have := HRr.out; simp at e; omega)) hg3.size hg3.os hg3.tape hg3.output
    clear hg3 k0 HC
    go_wp2
    refine leaves_cons (f := 47) (args := #[.pointer (some ⟨w.heap.size, 0, none⟩), .pointer (some ⟨w.heap.size + 1, 0, none⟩), .pointer (some ⟨w.heap.size + 1 + 1, 0, none⟩)]) (by simp) (by simp [go_sem]) ?_
    refine (catch_fault w.heap.size (w.heap.size + 1) (w.heap.size + 1 + 1) (q : Int) x [] w3 _ _ _ _ _ _ HD3.out.b1 HD3.out.b2 HD3.out.b3 (by omega) (by omega) (by omega)).mono ?_
    rintro e2 u' w4 ⟨rfl, rfl, g1, g2, g3, hfr, hsz, ho, ht, hou⟩
    have HF : Hid (DecPost w zs (.returned (.tuple #[.slice none 0 0, .int .i64 (q : Int), .int .i64 x])) w4) := by
      unfold DecPost
      rw [HT.out]
      have hb := HD3.out.bel
      exact ⟨rfl, ho.trans hb.os, ht.trans hb.tape, hou.trans hb.output, Nat.le_trans hb.size hsz, fun k hk => (hfr k (Nat.lt_of_lt_of_le hk hb.size) (by omega) (by omega) (by omega)).trans (hb.block k hk)⟩
    clear hfr hsz ho ht hou
    simp [Leaves, settle, results, Tryz.results22, go_sem, g1, g2, g3]
    exact HF.out
  | ok x =>
    obtain ⟨Ts, q⟩ := x
    have HT : Hid (decR zs = if q = zs.length then .ok Ts else .error (q, 11)) := by rw [HDc.out, hu]; rfl
    rw [hu] at HC
    clear hu HDc
    go_wp2_with fail
    refine HC.out.mono ?_
    rintro e1 w3 ⟨v, rfl, hr3, g, Qs, lo, rfl, hdc⟩
    have hg3 := hr3.2
    have hX := HX2.out
    have hZ2 : B5 < W2.heap.size := (Array.getElem?_eq_some_iff.1 hX.1).1
    have HD3 : Hid (D3 w w3 (.slice none 0 0) (.int .i64 0) (.int .i64 0)) := HD2.out.kept (fun k hk h1 => hg3.block k hk (fun e => by have := HRr.out; simp at e; omega)) hg3.size hg3.os hg3.tape hg3.output
    have HX3 : Hid (w3.heap[B5]? = some (.cells #[.pointer (some ⟨r, 0, none⟩)] 116 (0, 0))) := (block_reads hr3 hZ2 (by omega)).trans hX.1
    have HR3 : Hid (IsReader w3 r ra n zs q 0) := hr3.1
    have HQd : Hid (Dcd w3 W2.heap.size g Ts.length Ts.length Ts Qs lo ∧ w.heap.size + 1 + 1 < W2.heap.size ∧ w.heap.size + 1 + 1 < B5) := ⟨hdc, by omega, by omega⟩
    clear hr3 hdc hg3 hX hZ2 k0 HC HD2
    have hge := HQd.out.1.ge
    -- the batch is stored into its named result
    have c1 : w3.cell? ⟨w.heap.size, 0, none⟩ = some (.slice none 0 0) := by simp [World.cell?, HD3.out.b1]
    have f1 := frozen_of_row w3 w.heap.size 0 _ _ HD3.out.b1
    have HD4 : Hid (D3 w (w3.setCell ⟨w.heap.size, 0, none⟩ (.slice (some ⟨g, 0, none⟩) Ts.length Ts.length)) (.slice (some ⟨g, 0, none⟩) Ts.length Ts.length) (.int .i64 0) (.int .i64 0)) :=
      ⟨heap_setCell_same w3 w.heap.size 0 _ _ _ HD3.out.b1, (heap_setCell_other w3 ⟨w.heap.size, 0, none⟩ (w.heap.size + 1) _ (by show w.heap.size + 1 ≠ w.heap.size; omega)).trans HD3.out.b2, (heap_setCell_other w3 ⟨w.heap.size, 0, none⟩ (w.heap.size + 1 + 1) _ (by show w.heap.size + 1 + 1 ≠ w.heap.size; omega)).trans HD3.out.b3, bset HD3.out.bel _ (Nat.le_refl _)⟩
    have HX4 : Hid ((w3.setCell ⟨w.heap.size, 0, none⟩ (.slice (some ⟨g, 0, none⟩) Ts.length Ts.length)).heap[B5]? = some (.cells #[.pointer (some ⟨r, 0, none⟩)] 116 (0, 0))) := (heap_setCell_other w3 ⟨w.heap.size, 0, none⟩ B5 _ (by show B5 ≠ w.heap.size; have := HQd.out.2.2; omega)).trans HX3.out
    have HR4 : Hid (IsReader (w3.setCell ⟨w.heap.size, 0, none⟩ (.slice (some ⟨g, 0, none⟩) Ts.length Ts.length)) r ra n zs q 0) := by
      have hr := HRr.out
      refine HR3.out.grown (grown_setCell w3 ⟨w.heap.size, 0, none⟩ _) (fun e => by simp at e; omega) ?_
      by_cases hb : (Value.slice ra zs.length n).ownBlock = none
      · exact .inl hb
      · refine .inr fun e => ?_
        have := HRa.out _ e
        simp only at this
        omega
    have HQ4 : Hid (Dcd (w3.setCell ⟨w.heap.size, 0, none⟩ (.slice (some ⟨g, 0, none⟩) Ts.length Ts.length)) W2.heap.size g Ts.length Ts.length Ts Qs lo) := HQd.out.1.same (fun G g1 _ => heap_setCell_other w3 ⟨w.heap.size, 0, none⟩ G _ (by show G ≠ w.heap.size; have := HQd.out.2.1; omega)) (by simp)
    clear hge
    go_upto_region 4 with fail
    generalize w3.setCell ⟨w.heap.size, 0, none⟩ (.slice (some ⟨g, 0, none⟩) Ts.length Ts.length) = W4 at *
    clear c1 f1 HX3 HR3 HD3
    have k4 : W4.cell? ⟨B5, 0, none⟩ = some (.pointer (some ⟨r, 0, none⟩)) := by simp [World.cell?, HX4.out]
    by_cases hq : q = zs.length
    case neg =>
      have HT2 : Hid (decR zs = .error (q, 11)) := by rw [HT.out, if_neg hq]; rfl
      have HE : Hid (rdEnd zs q 0 = 11) := by
        have := HR4.out.2.2.1
        unfold rdEnd
        rw [if_pos ⟨rfl, by omega⟩]; rfl
      clear HT hq
      go_wp2_with fail
      refine (end_bad W4 r ra n zs q 0 HR4.out (by rw [HE.out]; omega)).mono ?_
      rintro e2 w5 ⟨rfl, hg5⟩
      rw [HE.out]
      have HD5 : Hid (D3 w w5 (.slice (some ⟨g, 0, none⟩) Ts.length Ts.length) (.int .i64 0) (.int .i64 0)) := HD4.out.kept (fun k hk _ => hg5.heap hk) hg5.size hg5.below.os hg5.below.tape hg5.below.output
      clear hg5 k4
      go_wp2
      refine leaves_cons (f := 47) (args := #[.pointer (some ⟨w.heap.size, 0, none⟩), .pointer (some ⟨w.heap.size + 1, 0, none⟩), .pointer (some ⟨w.heap.size + 1 + 1, 0, none⟩)]) (by simp) (by simp [go_sem]) ?_
      refine (catch_fault w.heap.size (w.heap.size + 1) (w.heap.size + 1 + 1) (q : Int) 11 [] w5 _ _ _ _ _ _ HD5.out.b1 HD5.out.b2 HD5.out.b3 (by omega) (by omega) (by omega)).mono ?_
      rintro e3 u' w6 ⟨rfl, rfl, g1, g2, g3, hfr, hsz, ho, ht, hou⟩
      have HF : Hid (DecPost w zs (.returned (.tuple #[.slice none 0 0, .int .i64 (q : Int), .int .i64 11])) w6) := by
        unfold DecPost
        rw [HT2.out]
        have hb := HD5.out.bel
        exact ⟨rfl, ho.trans hb.os, ht.trans hb.tape, hou.trans hb.output, Nat.le_trans hb.size hsz, fun k hk => (hfr k (Nat.lt_of_lt_of_le hk hb.size) (by omega) (by omega) (by omega)).trans (hb.block k hk)⟩
      clear hfr hsz ho ht hou
      simp [Leaves, settle, results, Tryz.results22, go_sem, g1, g2, g3]
      exact HF.out
    case pos =>
      have HT2 : Hid (decR zs = .ok Ts) := by rw [HT.out, if_pos hq]; rfl
      have HQq : Hid (q = zs.length) := hq
      clear HT hq
      go_wp2_with fail
      refine (end_ok W4 r ra n zs q HR4.out HQq.out).mono ?_
      rintro e2 w5 ⟨rfl, hg5⟩
      have HD5 : Hid (D3 w w5 (.slice (some ⟨g, 0, none⟩) Ts.length Ts.length) (.int .i64 0) (.int .i64 0)) := HD4.out.kept (fun k hk _ => hg5.heap hk) hg5.size hg5.below.os hg5.below.tape hg5.below.output
      have HQ5 : Hid (Dcd w5 W2.heap.size g Ts.length Ts.length Ts Qs lo) := HQ4.out.same (fun G _ hG => hg5.heap hG) hg5.size
      clear hg5 k4 HQ4 HD4
      have c1 : w5.cell? ⟨w.heap.size, 0, none⟩ = some (.slice (some ⟨g, 0, none⟩) Ts.length Ts.length) := by simp [World.cell?, HD5.out.b1]
      have c2 : w5.cell? ⟨w.heap.size + 1, 0, none⟩ = some (.int .i64 0) := by simp [World.cell?, HD5.out.b2]
      have c3 : w5.cell? ⟨w.heap.size + 1 + 1, 0, none⟩ = some (.int .i64 0) := by simp [World.cell?, HD5.out.b3]
      have f1 := frozen_of_row w5 w.heap.size 0 _ _ HD5.out.b1
      have f2 := frozen_of_row w5 (w.heap.size + 1) 0 _ _ HD5.out.b2
      have f3 := frozen_of_row w5 (w.heap.size + 1 + 1) 0 _ _ HD5.out.b3
      have s1 := heap_setCell_same w5 w.heap.size 0 _ _ (.slice (some ⟨g, 0, none⟩) Ts.length Ts.length) HD5.out.b1
      have s2 := heap_setCell_same (w5.setCell ⟨w.heap.size, 0, none⟩ (.slice (some ⟨g, 0, none⟩) Ts.length Ts.length)) (w.heap.size + 1) 0 _ _ (.int .i64 0) ((heap_setCell_other w5 ⟨w.heap.size, 0, none⟩ (w.heap.size + 1) _ (by show w.heap.size + 1 ≠ w.heap.size; omega)).trans HD5.out.b2)
      have s3 := heap_setCell_same ((w5.setCell ⟨w.heap.size, 0, none⟩ (.slice (some ⟨g, 0, none⟩) Ts.length Ts.length)).setCell ⟨w.heap.size + 1, 0, none⟩ (.int .i64 0)) (w.heap.size + 1 + 1) 0 _ _ (.int .i64 0) ((heap_setCell_other _ ⟨w.heap.size + 1, 0, none⟩ (w.heap.size + 1 + 1) _ (by show w.heap.size + 1 + 1 ≠ w.heap.size + 1; omega)).trans ((heap_setCell_other w5 ⟨w.heap.size, 0, none⟩ (w.heap.size + 1 + 1) _ (by show w.heap.size + 1 + 1 ≠ w.heap.size; omega)).trans HD5.out.b3))
      have HE : Hid ((((w5.setCell ⟨w.heap.size, 0, none⟩ (.slice (some ⟨g, 0, none⟩) Ts.length Ts.length)).setCell ⟨w.heap.size + 1, 0, none⟩ (.int .i64 0)).setCell ⟨w.heap.size + 1 + 1, 0, none⟩ (.int .i64 0)).cell? ⟨w.heap.size, 0, none⟩ = some (.slice (some ⟨g, 0, none⟩) Ts.length Ts.length) ∧ (((w5.setCell ⟨w.heap.size, 0, none⟩ (.slice (some ⟨g, 0, none⟩) Ts.length Ts.length)).setCell ⟨w.heap.size + 1, 0, none⟩ (.int .i64 0)).setCell ⟨w.heap.size + 1 + 1, 0, none⟩ (.int .i64 0)).cell? ⟨w.heap.size + 1, 0, none⟩ = some (.int .i64 0) ∧ (((w5.setCell ⟨w.heap.size, 0, none⟩ (.slice (some ⟨g, 0, none⟩) Ts.length Ts.length)).setCell ⟨w.heap.size + 1, 0, none⟩ (.int .i64 0)).setCell ⟨w.heap.size + 1 + 1, 0, none⟩ (.int .i64 0)).cell? ⟨w.heap.size + 1 + 1, 0, none⟩ = some (.int .i64 0)) := by
        have t1 : (((w5.setCell ⟨w.heap.size, 0, none⟩ (.slice (some ⟨g, 0, none⟩) Ts.length Ts.length)).setCell ⟨w.heap.size + 1, 0, none⟩ (.int .i64 0)).setCell ⟨w.heap.size + 1 + 1, 0, none⟩ (.int .i64 0)).heap[w.heap.size]? = _ := (heap_setCell_other _ ⟨w.heap.size + 1 + 1, 0, none⟩ w.heap.size _ (by show w.heap.size ≠ w.heap.size + 1 + 1; omega)).trans ((heap_setCell_other _ ⟨w.heap.size + 1, 0, none⟩ w.heap.size _ (by show w.heap.size ≠ w.heap.size + 1; omega)).trans s1)
        have t2 : (((w5.setCell ⟨w.heap.size, 0, none⟩ (.slice (some ⟨g, 0, none⟩) Ts.length Ts.length)).setCell ⟨w.heap.size + 1, 0, none⟩ (.int .i64 0)).setCell ⟨w.heap.size + 1 + 1, 0, none⟩ (.int .i64 0)).heap[w.heap.size + 1]? = _ := (heap_setCell_other _ ⟨w.heap.size + 1 + 1, 0, none⟩ (w.heap.size + 1) _ (by show w.heap.size + 1 ≠ w.heap.size + 1 + 1; omega)).trans s2
        exact ⟨by simp only [World.cell?, t1]; rfl, by simp only [World.cell?, t2]; rfl, by simp only [World.cell?, s3]; rfl⟩
      have HF : Hid (DecPost w zs (.returned (.tuple #[(.slice (some ⟨g, 0, none⟩) Ts.length Ts.length), .int .i64 0, .int .i64 0])) (((w5.setCell ⟨w.heap.size, 0, none⟩ (.slice (some ⟨g, 0, none⟩) Ts.length Ts.length)).setCell ⟨w.heap.size + 1, 0, none⟩ (.int .i64 0)).setCell ⟨w.heap.size + 1 + 1, 0, none⟩ (.int .i64 0))) := by
        unfold DecPost
        rw [HT2.out]
        have hz := HQd.out.2.1
        have hq5 := HQ5.out.same (W' := (((w5.setCell ⟨w.heap.size, 0, none⟩ (.slice (some ⟨g, 0, none⟩) Ts.length Ts.length)).setCell ⟨w.heap.size + 1, 0, none⟩ (.int .i64 0)).setCell ⟨w.heap.size + 1 + 1, 0, none⟩ (.int .i64 0))) (fun G g1 _ => by
          have hge := HQ5.out.ge
          rw [heap_setCell_other _ ⟨w.heap.size + 1 + 1, 0, none⟩ G _ (by show G ≠ w.heap.size + 1 + 1; omega), heap_setCell_other _ ⟨w.heap.size + 1, 0, none⟩ G _ (by show G ≠ w.heap.size + 1; omega), heap_setCell_other _ ⟨w.heap.size, 0, none⟩ G _ (by show G ≠ w.heap.size; omega)]) (by simp)
        refine ⟨_, rfl, ⟨g, Qs, lo, rfl, hq5.row, hq5.len, hq5.ts, by have := hq5.ge; omega, hq5.one, hq5.lo0, hq5.lok, hq5.mono⟩, bset (bset (bset HD5.out.bel _ (Nat.le_refl _)) _ (by omega)) _ (by omega)⟩
      clear s1 s2 s3 HD5 HQ5
      go_wp2
      refine leaves_cons (f := 47) (args := #[.pointer (some ⟨w.heap.size, 0, none⟩), .pointer (some ⟨w.heap.size + 1, 0, none⟩), .pointer (some ⟨w.heap.size + 1 + 1, 0, none⟩)]) (by simp) (by simp [go_sem]) ?_
      refine (catch_idle _ _ _ _).mono ?_
      rintro e3 u' w6 ⟨rfl, rfl, hw6⟩
      subst hw6
      obtain ⟨g1, g2, g3⟩ := HE.out
      simp [Leaves, settle, results, Tryz.results22, go_sem, g1, g2, g3]
      exact HF.out
end Go.Proofs.YtcaibgbhebldmaaGreat.Kk
