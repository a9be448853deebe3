import Derived.RangeFuncNested
import Derived.RangeFuncBound
import Derived.RangeFuncCalls
import Derived.RangeFuncLeaves
import Derived.RangeFuncBox
import Derived.Shelf.Abstract
import Derived.Shelf.RegionOpen
import Derived.WalkKit
import Derived.OwnWalkIn
import Derived.TacticsInMore
import Derived.LoopNIn
import Derived.LoopIn
import Derived.Test.YtbmohlkcmhhpgaaGreatJKCompact
import Derived.Test.YtbmohlkcmhhpgaaGreatBkSt
import Derived.Maps.RangeRun
import Derived.Test.YtbmohlkcmhhpgaaGreatKList
import Derived.Test.YtbmohlkcmhhpgaaGreatJKSort
import Derived.Test.YtbmohlkcmhhpgaaGreatBkCollH
/-
  A REGION THAT DRAWS ITS ORDER AND ONLY READS, IN THE ROUND OF A LOOP OVER A FUNCTION: as outside a round, where no operation is a defer.
-/
namespace Go.Proofs.YtbmohlkcmhhpgaaGreat
open Go.RowKit Go.Sort

def noDefer (o : Oper) : Bool := match o.op with
  | .defer _ => false
  | _ => true
theorem noDefer_ne {o : Oper} (h : noDefer o = true) : ∀ c, o.op ≠ .defer c := by
  intro c e
  unfold noDefer at h
  rw [e] at h
  simp at h
theorem wpIn_round {F : Fence} {n l : Nat} {P : Program} {o : Oper} {a : Act} {w : World} {K : Act → World → Prop} {Q : Exit → Act → World → Prop} (hro : F.round = none) (hd : noDefer o = true) (h : o.wpIn F n P a w K Q) : o.wpIn (F.inRound l) n P a w K Q := by
  obtain ⟨h1, h2⟩ := h
  refine ⟨h1, ?_⟩
  rw [hro, Oper.semAt_none] at h2
  rw [Fence.inRound_round, Oper.semAt_some l _ _ (noDefer_ne hd)]
  generalize (execOp a.eval o).run P w = r at *
  cases r with
  | ok x w' => cases x <;> exact h2
  | halt x w' => cases x <;> exact h2
theorem wpAny_round {F : Fence} {n l : Nat} {P : Program} {md : Region.Mode} {ops : Array Oper} {Q : Exit → Act → World → Prop} (hro : F.round = none) (hd : ops.all noDefer = true) :
    ∀ (fuel : Nat) (listed : Array Bool) (a : Act) (w : World), wpAnyIn F n P md ops Q fuel listed a w → wpAnyIn (F.inRound l) n P md ops Q fuel listed a w
  | 0, _, _, _, h => h
  | fuel + 1, listed, a, w, h => ⟨h.1, fun i hi => by
    have h2 := h.2 i hi
    unfold wpOpIn at h2 ⊢
    cases ho : ops[i]? with
    | none => rw [ho] at h2; exact wpAny_round hro hd fuel _ _ _ h2
    | some o =>
      rw [ho] at h2
      have hn : noDefer o = true := by
        have h3 := Array.all_eq_true.1 hd
        obtain ⟨hlt, he⟩ := Array.getElem?_eq_some_iff.1 ho
        rw [← he]; exact h3 i hlt
      simp only at h2 ⊢
      split
      · rename_i hw
        rw [if_pos hw] at h2
        exact wpIn_round hro hn (Oper.wpIn_mono (fun a w hk => wpAny_round hro hd fuel _ a w hk) h2)
      · rename_i hw
        rw [if_neg hw] at h2
        exact ⟨h2.1, wpAny_round hro hd fuel _ _ _ h2.2⟩⟩
theorem region_round {F : Fence} {n l : Nat} {P : Program} {id : Nat} {Q : Exit → Act → World → Prop} {a : Act} {w : World} {ops : List Oper} (hro : F.round = none) (hm : P.follows .mixedOrders = true) (hB : Region.lexB .any ops.toArray = true) (hd : ops.toArray.all noDefer = true)
    (h : wpQuietIn F n P ops.toArray (fun w' => ∃ n, w' = w.drewN n) (fun a' => ∀ w', (∃ n, w' = w.drewN n) → Q .normal a' w') ops a) : (Code.region id ops.toArray true).wpIn (F.inRound l) n P Q a w := by
  simp only [Region.lexB, Bool.and_eq_true] at hB
  refine wpIn_region_any hm (wpAny_round hro hd _ _ _ _ (wpAnyIn_of_quiet (Q := fun a' => ∀ w', (∃ n, w' = w.drewN n) → Q .normal a' w') hro (fun _ w' hw' h => h w' hw') _ _ _ _ ⟨1, rfl⟩ ?_))
  have := wpAnyQIn_lex (F := F) (n := n) (C := fun w' => ∃ n, w' = w.drewN n) (md := .any) hB.1 ops 0 (Array.replicate ops.toArray.size false) a (by simp) (by simpa using hB.2) h
  simpa using this

/-- a loop over a function, whichever way it ends: what holds behind it -/
theorem loop_cut {F : Fence} {n : Nat} {P : Program} {c : Code} {Q : Exit → Act → World → Prop} {a : Act} {w : World} (id : Nat) (Post : World → Prop) (hex : ∀ a w, Q .normal a w → Q (.exit id) a w)
    (h : c.wpIn F n P (fun e a' w' => (e = .normal ∨ e = .exit id) ∧ ∃ D, w.heap.size ≤ D ∧ a' = { a with defers := { target := .collected D, args := #[] } :: a.defers } ∧ Post w' ∧ w'.heap[D]? = some (.deferred (some []))) a w)
    (hk : ∀ D W, w.heap.size ≤ D → Post W → W.heap[D]? = some (.deferred (some [])) → Q .normal { a with defers := { target := .collected D, args := #[] } :: a.defers } W) : c.wpIn F n P Q a w := by
  refine Code.wpIn_mono ?_ h
  rintro e a' w' ⟨he, D, hD, rfl, hp, hd⟩
  rcases he with rfl | rfl
  · exact hk D w' hD hp hd
  · exact hex _ _ (hk D w' hD hp hd)
/-- a key in a box -/
def KBoxed (W : World) (B : Nat) (x y : Int) : Prop := W.heap[B]? = some (.cells #[.int .i64 x, .int .i64 y] 43 (0, 0))
theorem KBoxed.lt {W : World} {B : Nat} {x y : Int} (h : KBoxed W B x y) : B < W.heap.size := (Array.getElem?_eq_some_iff.1 h).1
theorem KBoxed.cell {W : World} {B : Nat} {x y : Int} (h : KBoxed W B x y) : W.cell? ⟨B, 0, none⟩ = some (.int .i64 x) ∧ W.cell? ⟨B, 1, none⟩ = some (.int .i64 y) := by
  constructor <;> simp [World.cell?, show W.heap[B]? = _ from h]
theorem KBoxed.new (W : World) (x y : Int) : KBoxed (W.alloc (.cells #[.int .i64 x, .int .i64 y] 43)) W.heap.size x y := World.alloc_heap_new W _
theorem KBoxed.kept {W W' : World} {row : Option Nat} {B : Nat} {x y : Int} (h : KBoxed W B x y) (hg : W.grownBy W' row) (hne : some B ≠ row) : KBoxed W' B x y := (hg.block B h.lt hne).trans h
theorem KBoxed.own {W W' : World} {row : Option Nat} {B : Nat} {x y : Int} (h : KBoxed W B x y) (hg : W.grownBy W' row) (hr : ∀ r, row = some r → ∃ o : Obj, W.heap[r]? = some o ∧ o.isCells = false) : KBoxed W' B x y :=
  h.kept hg (fun e => by obtain ⟨o, ho, hc⟩ := hr B e.symm; rw [show W.heap[B]? = _ from h] at ho; cases ho; cases hc)
theorem KBoxed.alloc {W : World} {B : Nat} {x y : Int} (h : KBoxed W B x y) (o : Obj) : KBoxed (W.alloc o) B x y := h.kept (World.grownBy_alloc W o none) (by simp)

end Go.Proofs.YtbmohlkcmhhpgaaGreat
/-
  maps.Keys AT THE MAP OF KEYS: THE ITERATOR; slices.AppendSeq, slices.Collect.
-/
namespace Go.Proofs.YtbmohlkcmhhpgaaGreat
open Go.RowKit Go.Sort Go.Shelf

attribute [local go_sem] Oper.semAt_some

theorem run_next_al2 (w : World) (r bm since c0 : Nat) (seen : Array Nat) (es : Array MapEntry) (clock : Nat) (hr : w.heap[r]? = some (.mapIter (some bm) since seen c0)) (hb : w.heap[bm]? = some (.map es clock)) (hold : ∀ x ∈ es.toList, x.born < since) (hsc : since ≤ c0) :
    ((leftOf es seen).size = 0 ∧ ∀ ty, (Instr.next (.pointer (some ⟨r, 0, none⟩)) false ty).run Tryz.prog w = .ok (.tuple #[.bool false]) w) ∨
    ∃ e ∈ (leftOf es seen).toList, ∃ w1 : World, (w1 = w ∨ w1 = w.drew) ∧ ∀ ty, (Instr.next (.pointer (some ⟨r, 0, none⟩)) false ty).run Tryz.prog w = .ok (.tuple #[.bool true, e.key, e.val]) (ChangeMaps.setBlock w1 r (.mapIter (some bm) since (seen.push e.born) clock)) := by
  have hty : ∀ ty, (Instr.next (.pointer (some ⟨r, 0, none⟩)) false ty).run Tryz.prog w = (Instr.next (.pointer (some ⟨r, 0, none⟩)) false 0).run Tryz.prog w := fun _ => rfl
  rcases run_next_at (P := Tryz.prog) w 0 r bm since c0 seen es clock hr hb hold hsc with ⟨h0, hrun⟩ | ⟨e, he, w1, hw1, hrun⟩
  · exact .inl ⟨h0, fun ty => (hty ty).trans hrun⟩
  · exact .inr ⟨e, he, w1, hw1, fun ty => (hty ty).trans hrun⟩
theorem nodup_len {α : Type} : ∀ (A B : List α), A.Nodup → (∀ x ∈ A, x ∈ B) → A.length ≤ B.length
  | [], _, _, _ => by simp
  | a :: A, B, hn, hs => by
    obtain ⟨B1, B2, rfl⟩ := List.append_of_mem (hs a (by simp))
    rw [List.nodup_cons] at hn
    have ih := nodup_len A (B1 ++ B2) hn.2 (fun x hx => by
      have h1 := hs x (by simp [hx])
      have h2 : x ≠ a := fun e => hn.1 (e ▸ hx)
      simp only [List.mem_append, List.mem_cons] at h1 ⊢
      rcases h1 with h | h | h
      · exact .inl h
      · exact absurd h h2
      · exact .inr h)
    simp only [List.length_append, List.length_cons] at ih ⊢
    omega
abbrev encK1 (k : K) : Array Value := #[kv k]
/-- which entries have come -/
structure Came (ms : Array MapEntry) (seen : Array Nat) (xs : List MapEntry) : Prop where
  born : seen.toList = xs.map (fun x => x.born)
  sub : ∀ x ∈ xs, x ∈ ms.toList
  nd : xs.Nodup
theorem Came.start (ms : Array MapEntry) : Came ms #[] [] := ⟨rfl, by simp, by simp⟩
theorem Came.step {ms : Array MapEntry} {seen : Array Nat} {xs : List MapEntry} {x : MapEntry} (h : Came ms seen xs) (hx : x ∈ ms.toList) (hs : seen.contains x.born = false) : Came ms (seen.push x.born) (xs ++ [x]) := by
  refine ⟨by simp [h.born], fun y hy => ?_, ?_⟩
  · rcases List.mem_append.1 hy with hy | hy
    · exact h.sub y hy
    · simp at hy; subst hy; exact hx
  · rw [List.nodup_append]
    refine ⟨h.nd, by simp, fun a ha b hb e => ?_⟩
    simp at hb
    subst hb
    subst e
    have h1 : a.born ∈ seen.toList := by rw [h.born]; exact List.mem_map.2 ⟨a, ha, rfl⟩
    have h2 : seen.contains a.born = true := by simpa using h1
    rw [h2] at hs
    cases hs
theorem Came.perm {ms : Array MapEntry} {seen : Array Nat} {xs : List MapEntry} (h : Came ms seen xs) (hn : (ms.toList.map (fun x => x.born)).Nodup) (h0 : (leftOf ms seen).size = 0) : xs.Perm ms.toList := by
  have hnd : ms.toList.Nodup := (List.pairwise_map.1 hn).imp (fun {a b} h e => h (by rw [e]))
  refine (List.perm_ext_iff_of_nodup h.nd hnd).2 (fun x => ⟨h.sub x, fun hx => ?_⟩)
  have h1 : seen.contains x.born = true := by
    cases hc : seen.contains x.born with
    | true => rfl
    | false =>
      have h2 : x ∈ (leftOf ms seen).toList := by
        unfold leftOf
        rw [Array.mem_toList_iff, Array.mem_filter]
        exact ⟨Array.mem_toList_iff.1 hx, by rw [hc]; rfl⟩
      have h3 := List.length_pos_of_mem h2
      rw [Array.length_toList] at h3
      omega
  have h2 : x.born ∈ seen.toList := by simpa using h1
  rw [h.born] at h2
  obtain ⟨y, hy, e⟩ := List.mem_map.1 h2
  have hyx : y = x := by
    obtain ⟨A, C, hA⟩ := List.append_of_mem hx
    have hym := h.sub y hy
    rw [hA] at hn hym
    have hs := nodup_mid (f := fun x : MapEntry => x.born) hn
    rcases List.mem_append.1 hym with h | h
    · exact absurd e (hs.1 y h)
    · rcases List.mem_cons.1 h with h | h
      · exact h
      · exact absurd e (hs.2 y h)
  rw [← hyx]
  exact hy
theorem perm_kv {A C : List K} (h : (A.map kv).Perm (C.map kv)) : A.Perm C := by
  have hinj : ∀ (a b : K), kv a = kv b → a = b := fun a b h => kv_inj h
  obtain ⟨g, hg⟩ : ∃ g : Value → K, ∀ k, g (kv k) = k := by
    classical
    refine ⟨fun v => if h : ∃ k, kv k = v then h.choose else (0, 0), fun k => ?_⟩
    have hx : ∃ k', kv k' = kv k := ⟨k, rfl⟩
    show (if h : ∃ k', kv k' = kv k then h.choose else ((0, 0) : K)) = k
    rw [dif_pos hx]
    exact hinj _ _ hx.choose_spec
  have h2 := h.map g
  simpa [List.map_map, Function.comp_def, hg] using h2
set_option maxRecDepth 100000 in
set_option maxHeartbeats 4000000 in
theorem keysI_in (F : Fence) (n : Nat) (hf : F.fn 70) (hro : F.round = none) (hn : 1 ≤ n) (ly Bm M : Nat) (es : List (K × Value)) (J Jx : List K → World → Prop)
    (hY : ∀ pre x W, J pre W → pre.length < es.length → YieldAt F (n - 1) Tryz.prog ly (encK1 x) W fun e W' =>
      (e = .returned (.bool true) ∧ J (pre ++ [x]) W' ∧ KeepsWalks W W') ∨ (e = .returned (.bool false) ∧ Jx (pre ++ [x]) W'))
    (W : World) (hJ : AbidesFrom W.heap.size J) (hm : W.cell? ⟨Bm, 0, none⟩ = some (.map (some M))) (hM : MAt kv KIn W M es) (h0 : J [] W) :
    CallsIn F n Tryz.prog 70 #[.func (.yield ly) #[] #[], ptr Bm] W fun e W' => (∃ v, e = .returned v) ∧
      ((∃ ys : List K, ys.Perm (es.map Prod.fst) ∧ J ys W') ∨ (∃ pre, True ∧ Jx pre W')) := by
  obtain ⟨ms, clock, hm1, hm2, hm3, hm4⟩ := hM.ex
  have hrg := run_range_map (P := Tryz.prog) W 86 43 99 M ms clock kdN.u hm1
  obtain ⟨W4, hW4⟩ : ∃ W4, W4 = W.alloc (.mapIter (some M) clock #[] clock) := ⟨_, rfl⟩
  have HW4 : Hid (W4.heap[W.heap.size]? = some (.mapIter (some M) clock #[] clock) ∧ W4.heap[M]? = some (.map ms clock) ∧ J [] W4 ∧ W.heap.size < W4.heap.size) := by
    rw [hW4]
    exact ⟨heap_alloc_new _ _ rfl, (heap_alloc_old _ _ (blk_lt hm1)).trans hm1, hJ _ _ _ none h0 (World.grownBy_alloc W _ none) (fun r e => by cases e), by simp⟩
  have HMs := hidC (And.intro hm1 (And.intro hm2 (And.intro hm3 hm4)))
  have HMM := hidC hM
  clear hm2 hm3 h0 hM
  refine callsIn_of_wp Tryz.func70 rfl hf ?_ hro
  simp only [Tryz.ntmps70, List.size_toArray, List.length_cons, List.length_nil, Nat.reduceAdd, Nat.reduceSub, Array.replicate_succ, Array.replicate_zero, List.push_toArray, List.append_toArray, List.nil_append, List.cons_append]
  gi_wp2
  rw [← hW4]
  clear hW4 hrg hm
  gi_loopw [3] (fun _ wr => ∃ (seen : Array Nat) (c0 : Nat) (xs : List MapEntry) (pre : List K), Hid (wr.heap[W.heap.size]? = some (.mapIter (some M) clock seen c0) ∧ clock ≤ c0 ∧ wr.heap[M]? = some (.map ms clock) ∧ Came ms seen xs ∧ xs.map (fun x => x.key) = pre.map kv ∧ J pre wr))
    (fun _ wr => match wr.heap[W.heap.size]? with
      | some (.mapIter _ _ seen _) => (leftOf ms seen).size
      | _ => 0)
  case atStart => exact ⟨#[], clock, [], [], HW4.out.1, Nat.le_refl _, HW4.out.2.1, Came.start ms, rfl, HW4.out.2.2.1⟩
  case round =>
    obtain ⟨seen, c0, xs, pre, HR⟩ := hrel
    have hme : (match wr.heap[W.heap.size]? with
      | some (.mapIter _ _ seen _) => (leftOf ms seen).size
      | _ => 0) = (leftOf ms seen).size := by rw [HR.out.1]
    rcases run_next_al2 wr W.heap.size M clock c0 seen ms clock HR.out.1 HR.out.2.2.1 hm4 HR.out.2.1 with ⟨h0, hnx⟩ | ⟨x, hx, w5, hw5, hnx⟩
    · have HF : Hid (∃ ys : List K, ys.Perm (es.map Prod.fst) ∧ J ys wr) := by
        refine ⟨pre, perm_kv ?_, HR.out.2.2.2.2.2⟩
        rw [← HR.out.2.2.2.2.1]
        refine (HR.out.2.2.2.1.perm HMs.out.2.2.1 h0).map (fun x : MapEntry => x.key) |>.trans ?_
        have e1 := congrArg (List.map Prod.fst) HMs.out.2.1
        simp only [List.map_map, Function.comp_def] at e1
        rw [e1]
        simp [List.map_map, Function.comp_def]
      clear HR hme
      gi_wp2
      go_end0
      exact ⟨⟨_, rfl⟩, .inl HF.out⟩
    · obtain ⟨hxm, hxs⟩ := mem_left hx
      have hshr := left_shrinks ms seen x hx
      have h1 : (x.key, x.val) ∈ es.map (fun e => (kv e.1, e.2)) := by rw [← HMs.out.2.1]; exact List.mem_map.2 ⟨x, hxm, rfl⟩
      obtain ⟨⟨k, vx⟩, he0, hex⟩ := List.mem_map.1 h1
      obtain ⟨hxk, hxv⟩ := Prod.mk.inj hex
      simp only at hxk hxv
      obtain ⟨W5, hW5⟩ : ∃ W5, W5 = ChangeMaps.setBlock w5 W.heap.size (.mapIter (some M) clock (seen.push x.born) clock) := ⟨_, rfl⟩
      rw [← hW5] at hnx
      have hw5s : w5.heap = wr.heap := by rcases hw5 with rfl | rfl <;> rfl
      have hg5 : wr.grownBy W5 (some W.heap.size) := by
        rw [hW5]
        have hg := grown_setBlock w5 W.heap.size (.mapIter (some M) clock (seen.push x.born) clock)
        rcases hw5 with rfl | rfl
        · exact hg
        · exact ⟨hg.os, hg.tape, hg.output, hg.size, hg.block⟩
      have hr5 : W5.heap[W.heap.size]? = some (.mapIter (some M) clock (seen.push x.born) clock) := by
        rw [hW5]
        exact setBlock_at _ (by rw [hw5s]; exact blk_lt HR.out.1)
      have hMr : M ≠ W.heap.size := fun e => by have := blk_lt HMs.out.1; omega
      have hM5 : W5.heap[M]? = some (.map ms clock) := (hg5.block M (blk_lt HR.out.2.2.1) (fun e => hMr (by cases e; rfl))).trans HR.out.2.2.1
      have hen := run_entry_at (P := Tryz.prog) W5 W.heap.size M clock seen ms clock x hr5 hM5 hxm HMs.out.2.2.1
      have hJ5 : J pre W5 := hJ pre wr W5 (some W.heap.size) HR.out.2.2.2.2.2 hg5 (fun r e => by cases e; exact ⟨Nat.le_refl _, _, HR.out.1, rfl⟩)
      obtain ⟨U, hU⟩ : ∃ U, U = W5.alloc (.cells #[.int .i64 k.1, .int .i64 k.2] 43) := ⟨_, rfl⟩
      have hJU : J pre U := by rw [hU]; exact hJ pre W5 _ none hJ5 (World.grownBy_alloc W5 _ none) (fun r e => by cases e)
      have hrU : U.heap[W.heap.size]? = some (.mapIter (some M) clock (seen.push x.born) clock) := by rw [hU]; exact (heap_alloc_old _ _ (blk_lt hr5)).trans hr5
      have hMU : U.heap[M]? = some (.map ms clock) := by rw [hU]; exact (heap_alloc_old _ _ (blk_lt hM5)).trans hM5
      have hKU : U.heap[W5.heap.size]? = some (.cells #[.int .i64 k.1, .int .i64 k.2] 43 (0, 0)) := by rw [hU]; exact heap_alloc_new _ _ rfl
      have hcm := HR.out.2.2.2.1.step hxm hxs
      have hkm : (xs ++ [x]).map (fun x => x.key) = (pre ++ [k]).map kv := by rw [List.map_append, HR.out.2.2.2.2.1]; simp [← hxk]
      have hlen : pre.length < es.length := by
        have h2 : xs.length = pre.length := by have := congrArg List.length HR.out.2.2.2.2.1; simpa using this
        have h3 : ms.toList.length = es.length := by have := congrArg List.length HMs.out.2.1; simpa using this
        have h4 : (xs ++ [x]).length ≤ ms.toList.length := nodup_len _ _ hcm.nd hcm.sub
        simp at h4
        simp at h3
        omega
      obtain ⟨fn, tmps, assign, body, hy, hR⟩ := hY pre k U hJU hlen
      have HNext : Hid (∀ W3, J (pre ++ [k]) W3 → KeepsWalks U W3 → (W3.heap[W.heap.size]? = some (.mapIter (some M) clock (seen.push x.born) clock) ∧ clock ≤ clock ∧ W3.heap[M]? = some (.map ms clock) ∧ Came ms (seen.push x.born) (xs ++ [x]) ∧ (xs ++ [x]).map (fun x => x.key) = (pre ++ [k]).map kv ∧ J (pre ++ [k]) W3)) := fun W3 h3 hk3 => ⟨hk3.same _ _ hrU rfl, Nat.le_refl _, hk3.same _ _ hMU rfl, hcm, hkm, h3⟩
      rw [← hxk, ← hxv] at hnx hen
      have k1 : U.cell? ⟨W5.heap.size, 0, none⟩ = some (.int .i64 k.1) := by simp [World.cell?, hKU]
      have k2 : U.cell? ⟨W5.heap.size, 1, none⟩ = some (.int .i64 k.2) := by simp [World.cell?, hKU]
      clear hxk hxv hx hxm hxs h1 hex he0 hW5 hw5s hg5 hr5 hM5 hMr hJ5 hJU hrU hMU hKU hcm hkm hlen HR hw5 hY
      obtain ⟨k1', k2'⟩ := k
      simp only [kv] at hnx hen
      simp only [encK1, kv] at hy
      simp only at hU k1 k2
      subst hU
      gi_wp2
      refine hR.mono ?_
      rintro e W3 (⟨rfl, hJ3, hk3⟩ | ⟨rfl, hJx3⟩)
      · have HN3 := hidC (HNext.out W3 hJ3 hk3)
        gi_wp2
        go_roundw
        case rel => exact ⟨seen.push x.born, clock, xs ++ [x], pre ++ [(k1', k2')], HN3.out⟩
        case measure => rw [hme]; rw [HN3.out.1]; exact hshr
      · gi_wp2
        refine bodyPost_ret (results_none rfl _ _ _) rfl ?_
        exact ⟨⟨_, rfl⟩, .inr ⟨_, trivial, hJx3⟩⟩
end Go.Proofs.YtbmohlkcmhhpgaaGreat
/-
  slices.AppendSeq, slices.Collect OVER maps.Keys.
-/
namespace Go.Proofs.YtbmohlkcmhhpgaaGreat
open Go.RowKit Go.Sort Go.Shelf

attribute [local go_sem] Oper.semAt_some

theorem rowOwn {X Y : World} {b : Nat} {T : TypeId} {sz n : Nat} {v : Value} {xs : List Value} {row : Option Nat} (h : X.ownsRow b T sz v n xs) (hg : X.grownBy Y row) (hr : ∀ r, row = some r → ∃ o : Obj, X.heap[r]? = some o ∧ o.isCells = false) : Y.ownsRow b T sz v n xs := by
  obtain ⟨hl, h⟩ := h
  refine ⟨hl, ?_⟩
  rcases h with h | ⟨g, cap, cur, rfl, hb, hh, r⟩
  · exact .inl h
  · refine .inr ⟨g, cap, cur, rfl, hb, (hg.block g (blk_lt hh) (fun e => ?_)).trans hh, r⟩
    obtain ⟨o, ho, hc⟩ := hr g e.symm
    rw [hh] at ho
    cases ho
    cases hc
theorem keepsRow {X Y : World} {b : Nat} {T : TypeId} {sz n : Nat} {v : Value} {xs : List Value} (h : X.ownsRow b T sz v n xs) (hg : X.grownBy Y v.ownBlock) : KeepsOthers X Y := by
  refine ⟨hg.size, fun k o hk ho => (hg.block k (blk_lt hk) (fun e => ?_)).trans hk⟩
  obtain ⟨_, ⟨rfl, _⟩ | ⟨g, cap, cur, rfl, hb, hh, r⟩⟩ := h
  · cases e
  · cases e
    rw [hh] at hk
    cases hk
    cases ho
theorem wpLIn_app {F : Fence} {n : Nat} {w : World} {ops : Array Oper} {rest : List Oper} {o : Oper} {a : Act} {Q : Exit → Act → World → Prop} (hgd : o.guard = none) (s x : Operand) (TS : TypeId)
    (ho : o.op = .call { callee := .builtin .append, args := #[s, x], argTypes := #[TS, TS] }) (v u : Value) (hs : a.eval s = v) (hx : a.eval x = u) {post : Value → World → Prop}
    (hr : ∀ ty, ∃ v' w', (Builtin.append_ #[TS, TS] ty #[v, u]).run Tryz.prog w = .ok v' w' ∧ post v' w') (h : ∀ v' w', post v' w' → wpListIn F n Tryz.prog ops Q rest (a.put o.dst v') w') : wpListIn F n Tryz.prog ops Q (o :: rest) a w := by
  obtain ⟨v', w', hr, h2⟩ := hr o.type
  refine wpListIn_plain hgd fun K hK' => ?_
  unfold Oper.wpIn
  refine ⟨?_, ?_⟩
  · simp [Oper.about, ho, resolve, Target.leads]
  · rw [Oper.semAt_plain F _ _ (by rw [ho]; intro c hc'; cases hc')]
    simp [execOp, ho, resolve, invoke, builtin, hs, hx, hr, Result.andThen]
    exact hK' _ _ (h v' w' h2)
/-- the list that grows -/
structure KG (w : World) (n0 Bl : Nat) (L : List K) (W : World) (v : Value) : Prop where
  bx : Boxed W Bl 51 v
  ow : OwnK W n0 v L
  bel : Below w.heap.size w W
  sz : n0 ≤ W.heap.size
theorem KG.own {w : World} {n0 Bl B : Nat} {β : Type} (f : β → List K) (hB : w.heap.size ≤ B) : OwnFrom B (fun (s : β) W => ∃ v, KG w n0 Bl (f s) W v) := fun _ X Y row ⟨v, h⟩ hg hr =>
  ⟨v, boxed_own Bl 51 (fun _ : Unit => v) () X Y row h.bx hg (fun r e => (hr r e).2), rowOwn h.ow hg (fun r e => (hr r e).2), h.bel.grown hg h.bel.size (fun k e => Nat.le_trans hB (hr k e).1), Nat.le_trans h.sz hg.size⟩
theorem KeepsOthers.walks {W W' : World} (h : KeepsOthers W W') : KeepsWalks W W' := ⟨h.size, fun k o hk hw => h.same k o hk (Obj.not_cells_of_walk hw)⟩
/-- maps.Keys hands back a value that goes over the keys -/
theorem keysI_stops (F : Fence) (n : Nat) (hf : F.fn 70) (hro : F.round = none) (hn : 1 ≤ n) (Bm M : Nat) (es : List (K × Value)) (w : World) (hB : Bm < w.heap.size) (hm : w.cell? ⟨Bm, 0, none⟩ = some (.map (some M))) (hM : MAt kv KIn w M es) :
    SeqStopsK F n Tryz.prog 70 #[ptr Bm] encK1 KeepsWalks (fun ys => ys.Perm (es.map Prod.fst)) (fun _ => True) es.length w := fun ly J Jx W hW hJ _ hY h0 =>
  keysI_in F n hf hro hn ly Bm M es J Jx hY W hJ ((hW.cell (p := ⟨Bm, 0, none⟩) hB).trans hm) (hM.kept hW) h0
set_option maxRecDepth 100000 in
set_option maxHeartbeats 2000000 in
theorem appSeq_any (w : World) (Bm M : Nat) (es : List (K × Value)) (hB : Bm < w.heap.size) (hm : w.cell? ⟨Bm, 0, none⟩ = some (.map (some M))) (hM : MAt kv KIn w M es) (hl : es.length ≤ 65536) :
    Calls Tryz.prog 79 #[.slice none 0 0, .func (.func 70) #[] #[ptr Bm]] w fun e w' => ∃ v L, e = .returned v ∧ OwnK w' w.heap.size v L ∧ L.Perm (es.map Prod.fst) ∧ Below w.heap.size w w' := by
  obtain ⟨W2, hW1⟩ : ∃ W2, W2 = w.alloc (.cells #[.slice none 0 0] 51) := ⟨_, rfl⟩
  have HB1 : Hid (Below w.heap.size w W2 ∧ Boxed W2 w.heap.size 51 (.slice none 0 0) ∧ W2.heap.size = w.heap.size + 1) := by
    rw [hW1]
    exact ⟨(Below.refl _ _).alloc (Nat.le_refl _) _, Boxed.new w _ _, by simp⟩
  have HSq : Hid (SeqStopsK Fence.wide 9 Tryz.prog 70 #[ptr Bm] encK1 KeepsWalks (fun ys => ys.Perm (es.map Prod.fst)) (fun _ => True) es.length W2) :=
    keysI_stops Fence.wide 9 trivial rfl (by omega) Bm M es W2 (by have := HB1.out.2.2; omega) ((HB1.out.1.cell (p := ⟨Bm, 0, none⟩) hB).trans hm) (hM.kept HB1.out.1)
  have HG0 : Hid (KG w W2.heap.size w.heap.size [] W2 (.slice none 0 0) ∧ w.heap.size < W2.heap.size) := ⟨⟨HB1.out.2.1, OwnK.nil _ _, HB1.out.1, Nat.le_refl _⟩, by have := HB1.out.2.2; omega⟩
  clear hM hm HB1
  refine (callsIn_wide (n := 10)).1 ?_
  refine callsIn_of_wp_marks Tryz.func79 rfl trivial ?_ rfl
  refine wpIn_wide.2 ?_
  simp only [Tryz.ntmps79, List.size_toArray, List.length_cons, List.length_nil, Nat.reduceAdd, Nat.reduceSub, Array.replicate_succ, Array.replicate_zero, List.push_toArray, List.append_toArray, List.nil_append, List.cons_append]
  go_wp2_with fail
  rw [← hW1]
  clear hW1
  refine (wpIn_wide (n := 10)).1 ?_
  refine loop_cut 0 (fun W => ∃ v L, L.Perm (es.map Prod.fst) ∧ KG w W2.heap.size w.heap.size L W v) (fun _ _ h => h) ?loop ?rest
  case loop =>
    refine wpIn_rangeFunc_ownH rfl (by omega) (gf := 70) (lb := #[ptr Bm]) rfl trivial (enters_of Tryz.func70 (by kernel_rfl) rfl)
      HSq.out KeepsWalks.trans (fun W l o o' _ h1 _ h3 => KeepsWalks.putObj _ h1 h3) (Below.refl _ _) (fun _ => rfl)
      (fun pre W => ∃ v, KG w W2.heap.size w.heap.size pre W v)
      (fun _ _ _ => False)
      (KG.own (fun x => x) (by have := HG0.out.2; omega))
      (fun _ _ _ _ _ hs _ _ => hs)
      ⟨_, HG0.out.1⟩
      (fun x a' W => ∃ Bx, w.heap.size < Bx ∧ KBoxed W Bx x.1 x.2 ∧ a' = { tmps := #[.slice none 0 0, .func (.func 70) #[] #[ptr Bm], ptr w.heap.size, undef, .slice none 0 0, ptr Bx, .func (.func 70) #[] #[ptr Bm], .agg #[.int .i64 x.1, .int .i64 x.2], undef, undef, undef, undef, undef], defers := [] })
      (fun x a' _ X Y row hs hg hr => by obtain ⟨Bx, e1, e2, e3⟩ := hs; exact ⟨Bx, e1, e2.own hg (fun r e => (hr r e).2), e3⟩)
      ?assign ?body ?done ?stop
    case assign =>
      rintro ll pre x W K ⟨v, hk⟩ hK
      gi_wp2
      exact hK _ _ ((KeepsOthers.alloc _ _).from _) (KeepsWalks.alloc _ _) ⟨v, hk.bx.alloc _, hk.ow.alloc _, hk.bel.alloc hk.bel.size _, by have := hk.sz; simp; omega⟩ ⟨W.heap.size, by have := hk.sz; have := HG0.out.2; omega, KBoxed.new W _ _, rfl⟩
    case body =>
      rintro ll pre x a' W hll ⟨r, hr⟩ ⟨v, hk⟩ ⟨Bx, hBx, bX, rfl⟩ hlt
      obtain ⟨a0, n0, c0, rfl⟩ : ∃ a0 n0 c0, v = .slice a0 n0 c0 := by
        rcases hk.ow.shape with ⟨h1, _⟩ | ⟨g', cap', h1, _⟩
        · exact ⟨_, _, _, h1⟩
        · exact ⟨_, _, _, h1⟩
      have cN := hk.bx.cell
      have x1 := bX.cell.1
      have x2 := bX.cell.2
      obtain ⟨xt, xr⟩ := x
      simp only at x1 x2
      have HX : Hid (∀ ty, ∃ v' W5, (Builtin.append_ #[51, 51] ty #[(.slice a0 n0 c0), .slice (some ⟨W.heap.size, 0, none⟩) 1 1]).run Tryz.prog (W.alloc (.cells #[.int .i64 xt, .int .i64 xr] 43)) = .ok v' W5 ∧ (∃ a' n' c', v' = .slice a' n' c') ∧ (W5.cell? ⟨w.heap.size, 0, none⟩ = some (.slice a0 n0 c0) ∧ W5.frozen? ⟨w.heap.size, 0, none⟩ = false) ∧ KeepsOthers W W5 ∧ KG w W2.heap.size w.heap.size (pre ++ [(xt, xr)]) (W5.setCell ⟨w.heap.size, 0, none⟩ v') v') := by
        intro ty
        have hA : OwnK (W.alloc (.cells #[.int .i64 xt, .int .i64 xr] 43)) W2.heap.size (.slice a0 n0 c0) pre := hk.ow.alloc _
        obtain ⟨v', W5, hr5, ho5, hg5, hw5⟩ := run_append_keys ty W2.heap.size (.slice a0 n0 c0) pre hA (some ⟨W.heap.size, 0, none⟩) 1 1 [(xt, xr)] rfl (.inr ⟨W.heap.size, 0, rfl, fun j u hu => by
          have hb := heap_alloc_new (w := W) (.cells #[.int .i64 xt, .int .i64 xr] 43) W.heap.size rfl
          rw [World.cell?, hb]
          simpa [cks] using hu⟩) (by simp) (by simp; omega) (by have := hk.sz; simp; omega)
        have hbl : w.heap.size < W.heap.size := hk.bx.lt
        have hne : some w.heap.size ≠ (Value.slice a0 n0 c0).ownBlock := fun e => by
          have := (hk.ow.lt _ e.symm).1
          have := HG0.out.2
          omega
        have hb5 : Boxed W5 w.heap.size 51 (.slice a0 n0 c0) := (hk.bx.alloc _).kept hg5 hne
        refine ⟨v', W5, hr5, ?_, ⟨hb5.cell, hb5.frozen⟩, (KeepsOthers.alloc _ _).trans (keepsRow hA hg5), hb5.set v', ?_, ?_, ?_⟩
        · rcases ho5.shape with ⟨h1, _⟩ | ⟨g', cap', h1, _⟩
          · exact ⟨_, _, _, h1⟩
          · exact ⟨_, _, _, h1⟩
        · refine ho5.same (fun q hq => heap_setCell_other _ _ _ _ ?_)
          have := (ho5.lt q hq).1
          have := HG0.out.2
          simp; omega
        · have h1 : Below w.heap.size w W5 := (hk.bel.alloc hk.bel.size _).trans ((Below.refl _ _).grown hg5 (by have := hk.bel.size; simp; omega) (fun k e => by have := (hk.ow.lt _ e).1; have := HG0.out.2; omega))
          exact h1.setCell (p := ⟨w.heap.size, 0, none⟩) (Nat.le_refl _) _
        · have := hk.sz; have := hg5.size; simp at this ⊢; omega
      gi_wp2_with (
        gi_at_builtin
        refine wpLIn_app rfl _ _ 51 rfl (.slice a0 n0 c0) (.slice (some ⟨W.heap.size, 0, none⟩) 1 1) rfl rfl HX.out ?_
        rintro v' W5 ⟨⟨a', n', c', rfl⟩, ⟨c5, f5⟩, HK5⟩
        have HK6 := hidC HK5
        clear HX HK5)
      exact ⟨(HK6.out.1.trans (KeepsOthers.setCell _ _ _)).from _, (HK6.out.1.trans (KeepsOthers.setCell _ _ _)).walks, _, by simpa using HK6.out.2⟩
    case done =>
      rintro D' ys W hD hys ⟨v, hk⟩ hK
      exact ⟨.inl rfl, D', hD, rfl, ⟨v, ys, hys, hk⟩, hK⟩
    case stop =>
      rintro D' c pre W hD _ hIx hK
      exact hIx.elim
  case rest =>
    rintro D1 W6 hD1 ⟨v, L, hL, hk⟩ hK1
    have cN := hk.bx.cell
    obtain ⟨a0, n0, c0, rfl⟩ : ∃ a0 n0 c0, v = .slice a0 n0 c0 := by
      rcases hk.ow.shape with ⟨h1, _⟩ | ⟨g', cap', h1, _⟩
      · exact ⟨_, _, _, h1⟩
      · exact ⟨_, _, _, h1⟩
    have HB6 : Hid (OwnK W6 W2.heap.size (.slice a0 n0 c0) L ∧ Below w.heap.size w W6 ∧ W6.heap[D1]? = some (.deferred (some [])) ∧ w.heap.size ≤ D1) := ⟨hk.ow, hk.bel, hK1, by have := HG0.out.2; omega⟩
    clear hk hK1
    go_wp2
    refine ⟨by simp, .inl ⟨D1, _, rfl, run_takeDeferred HB6.out.2.2.1, ?_⟩⟩
    refine ⟨.slice a0 n0 c0, by simp [results, Tryz.f79, go_sem], _, L, rfl, ?_, hL, ?_⟩
    · refine rowOwn (OwnK.mono HB6.out.1 (by have := HG0.out.2; omega)) (grownBy_putObj' W6 D1 _) (fun r e => by cases e; exact ⟨_, HB6.out.2.2.1, rfl⟩)
    · exact HB6.out.2.1.trans (belowK_b (w := w) (Nat.le_refl _) W6 D1 _ (.deferred none) HB6.out.2.2.2 HB6.out.2.2.1 rfl rfl)
set_option maxHeartbeats 1000000 in
theorem collK_any (w : World) (Bm M : Nat) (es : List (K × Value)) (hB : Bm < w.heap.size) (hm : w.cell? ⟨Bm, 0, none⟩ = some (.map (some M))) (hM : MAt kv KIn w M es) (hl : es.length ≤ 65536) :
    Calls Tryz.prog 68 #[.func (.func 70) #[] #[ptr Bm]] w fun e w' => ∃ v L, e = .returned v ∧ OwnK w' w.heap.size v L ∧ L.Perm (es.map Prod.fst) ∧ Below w.heap.size w w' := by
  have HC := hidC (appSeq_any w Bm M es hB hm hM hl)
  clear hM hm
  go_enter Tryz.func68, Tryz.ntmps68
  go_wp2_with fail
  refine HC.out.mono ?_
  rintro e w' ⟨v, L, rfl, hx⟩
  have HX := hidC hx
  clear hx HC
  go_wp2
  go_ret
  exact ⟨v, L, rfl, HX.out⟩
set_option maxHeartbeats 1000000 in
theorem mkeys_any (w : World) (M : Option Nat) :
    Calls Tryz.prog 49 #[.map M] w fun e w' => e = .returned (.func (.func 70) #[] #[ptr w.heap.size]) ∧ w' = w.alloc (.cells #[.map M] 86) := by
  go_enter Tryz.func49, Tryz.ntmps49
  go_wp2
  go_ret
  exact ⟨rfl, rfl⟩
end Go.Proofs.YtbmohlkcmhhpgaaGreat
/-
  Keys.
-/
namespace Go.Proofs.YtbmohlkcmhhpgaaGreat
open Go.RowKit Go.Sort Go.Shelf

theorem nodup_of_len {α : Type} : ∀ (L S : List α), L.Nodup → (∀ x ∈ L, x ∈ S) → S.length ≤ L.length → S.Nodup
  | [], S, _, _, h => by
    have : S = [] := List.eq_nil_of_length_eq_zero (by simpa using h)
    subst this
    simp
  | a :: L, S, hn, hs, hl => by
    obtain ⟨S1, S2, rfl⟩ := List.append_of_mem (hs a (by simp))
    have hn' := List.nodup_cons.1 hn
    have hsub : ∀ x ∈ L, x ∈ S1 ++ S2 := fun x hx => by
      have h1 := hs x (by simp [hx])
      have h2 : x ≠ a := fun e => hn'.1 (e ▸ hx)
      simp only [List.mem_append, List.mem_cons] at h1 ⊢
      rcases h1 with h | h | h
      · exact .inl h
      · exact absurd h h2
      · exact .inr h
    have hlen : (S1 ++ S2).length ≤ L.length := by simp only [List.length_append, List.length_cons] at hl ⊢; omega
    have ih := nodup_of_len L (S1 ++ S2) hn'.2 hsub hlen
    have hna : a ∉ S1 ++ S2 := fun ha => by
      have h3 := nodup_len (a :: L) (S1 ++ S2) hn (fun x hx => by
        rcases List.mem_cons.1 hx with rfl | hx
        · exact ha
        · exact hsub x hx)
      simp only [List.length_cons] at h3
      omega
    rw [List.nodup_append] at ih ⊢
    refine ⟨ih.1, List.nodup_cons.2 ⟨fun h => hna (by simp [h]), ih.2.1⟩, fun x hx y hy e => ?_⟩
    rcases List.mem_cons.1 hy with rfl | hy
    · exact hna (by rw [← e]; simp [hx])
    · exact ih.2.2 x hx y hy e
theorem asc_rise {S L : List K} (ha : Asc S) (hm : SameMem S L) (hl : S.length = L.length) (hn : L.Nodup) (hk : ∀ k ∈ L, isKey k = true) : S = sortK L := by
  have hnd : S.Nodup := nodup_of_len L S hn (fun x hx => (hm x).2 hx) (by omega)
  refine sortK_eq ⟨fun k h => hk k ((hm k).1 h), ?_⟩ hm
  rw [List.pairwise_iff_getElem]
  intro i j hi hj hij
  have h1 := ha i j hij hj
  have e1 : kd S i = S[i] := by have := kd_get hi; rw [List.getElem?_eq_getElem hi] at this; exact (Option.some.inj this).symm
  have e2 : kd S j = S[j] := by have := kd_get hj; rw [List.getElem?_eq_getElem hj] at this; exact (Option.some.inj this).symm
  rw [e1, e2, lt_false] at h1
  rw [lt_iff]
  have hne : S[i] ≠ S[j] := by
    have h2 := List.pairwise_iff_getElem.1 hnd i j hi hj hij
    exact h2
  have h3 : ¬ (S[i].1 = S[j].1 ∧ S[i].2 = S[j].2) := fun h => hne (Prod.ext h.1 h.2)
  omega
theorem sortB_any (w : World) (base : Nat) (v : Value) (L : List K) (h : OwnK w base v L) (hm : L.length ≤ 8796093022208) :
    Calls Tryz.prog 69 #[v, .func (.func 50) #[] #[]] w fun e w' => e = .returned (.tuple #[]) ∧ ∃ S, OwnK w' base v S ∧ S.length = L.length ∧ Asc S ∧ SameMem S L ∧ w.grownBy w' v.ownBlock := by
  rcases h.shape with ⟨rfl, rfl⟩ | ⟨g, cp, rfl, hg1, hg2, hc1, hc2, hat⟩
  · refine (AnyF.slices_SortFunc_none laysSort none 0 (.func (.func 50) #[] #[]) w).mono ?_
    rintro e w' ⟨rfl, rfl⟩
    exact ⟨rfl, [], h, rfl, fun i j _ hj => by simp at hj, fun x => Iff.rfl, World.grownBy.refl _ _⟩
  · refine (sortFunc_any w base g L.length cp L h hm).mono ?_
    rintro e w' ⟨rfl, S, h1, h2, h3, h4⟩
    exact ⟨rfl, S, h1, h1.len.1.symm, h2, h3, h4⟩
def KeysPost (w : World) (nw : List K) (e : Ending) (w' : World) : Prop := ∃ v, e = .returned v ∧ OwnK w' w.heap.size v (sortK nw) ∧ (sortK nw).length = nw.length ∧ Below w.heap.size w w'
set_option maxRecDepth 100000 in
set_option maxHeartbeats 2000000 in
theorem keysB_any (w : World) (B Mp Mc Mn : Nat) (cap latest floor : Int) (pins : List (Int × Int)) (all : List V4) (nw : List K) (h : BA w B Mp Mc Mn cap latest floor pins all nw) :
    Calls Tryz.prog 28 #[ptr B] w fun e w' => KeysPost w nw e w' := by
  have hnd : nw.Nodup := by have := h.mn.kn; simpa [List.map_map, Function.comp_def] using this
  have hik : ∀ k ∈ nw, isKey k = true := fun k hk => by
    obtain ⟨v, hv, rfl⟩ := (h.nwa k).1 hk
    exact h.ik v hv
  have hln : nw.length ≤ 65536 := by
    have h1 := nodup_len nw (all.map Prod.fst) hnd (fun k hk => by
      obtain ⟨v, hv, rfl⟩ := (h.nwa k).1 hk
      exact List.mem_map.2 ⟨v, hv, rfl⟩)
    have h2 := h.ln
    have h3 := h.cp
    simp at h1
    omega
  obtain ⟨_, _, _, _, _, c5⟩ := h.cells
  obtain ⟨W1, hW1⟩ : ∃ W1, W1 = w.alloc (.cells #[.map (some Mn)] 86) := ⟨_, rfl⟩
  have hb1 : Below w.heap.size w W1 := by rw [hW1]; exact (Below.refl _ _).alloc (Nat.le_refl _) _
  have hz1 : W1.heap.size = w.heap.size + 1 := by rw [hW1]; simp
  have hmb : W1.cell? ⟨w.heap.size, 0, none⟩ = some (.map (some Mn)) := by
    have h1 : W1.heap[w.heap.size]? = some (.cells #[.map (some Mn)] 86 (0, 0)) := by rw [hW1]; exact heap_alloc_new _ _ rfl
    simp [World.cell?, h1]
  have HC : Hid (Calls Tryz.prog 68 #[.func (.func 70) #[] #[ptr w.heap.size]] W1 fun e w' => ∃ v L, e = .returned v ∧ OwnK w' W1.heap.size v L ∧ L.Perm nw ∧ Below W1.heap.size W1 w') := by
    have h1 := collK_any W1 w.heap.size Mn _ (by omega) hmb (h.mn.kept hb1) (by simpa using hln)
    simp only [List.map_map, Function.comp_def, List.map_id'] at h1
    exact h1
  have HN : Hid (nw.Nodup ∧ (∀ k ∈ nw, isKey k = true) ∧ Below w.heap.size w W1) := ⟨hnd, hik, hb1⟩
  have HMk := hidC (mkeys_any w (some Mn))
  rw [← hW1] at HMk
  clear h hnd hik hmb hb1 hW1
  have HSF : Hid (Calls Tryz.prog 48 #[.func (.func 70) #[] #[ptr w.heap.size], .func (.func 50) #[] #[]] W1 fun e w' => KeysPost w nw e w') := by
    show Calls _ _ _ _ _
    clear c5 HMk
    go_enter Tryz.func48, Tryz.ntmps48
    go_wp2_with fail
    refine HC.out.mono ?_
    rintro e W2 ⟨v, L, rfl, ho, hp, hb⟩
    have hlL : L.length = nw.length := hp.length_eq
    have HS0 := hidC (sortB_any W2 W1.heap.size v L ho (by omega))
    have HO : Hid (L.Perm nw ∧ Below W1.heap.size W1 W2 ∧ L.length = nw.length ∧ ∀ k, v.ownBlock = some k → W1.heap.size ≤ k ∧ k < W2.heap.size) := ⟨hp, hb, hlL, ho.lt⟩
    clear ho hp hb hlL HC
    go_wp2_with fail
    refine HS0.out.mono ?_
    rintro e W3 ⟨rfl, S, hS, hlS, ha, hs, hg⟩
    have HX : Hid (KeysPost w nw (.returned v) W3) := by
      have hS2 : S = sortK nw := by
        have e1 : S = sortK L := asc_rise ha hs hlS (HO.out.1.nodup_iff.2 HN.out.1) (fun k hk => HN.out.2.1 k (HO.out.1.subset hk))
        have hr : Rise S := by rw [e1]; exact sortK_rise (fun k hk => HN.out.2.1 k (HO.out.1.subset hk))
        exact sortK_eq hr (fun k => (hs k).trans (HO.out.1.mem_iff))
      have hb := HN.out.2.2
      refine ⟨_, rfl, ?_, ?_, ?_⟩
      · rw [← hS2]
        exact OwnK.mono hS (by omega)
      · rw [← hS2, hlS]; exact HO.out.2.2.1
      · exact hb.trans ((HO.out.2.1.trans ((Below.refl _ _).grown hg HO.out.2.1.size (fun k e => (HO.out.2.2.2 k e).1))).mono hb.size)
    clear hS hlS ha hs hg HS0 HO
    go_wp2
    go_ret
    exact HX.out
  go_enter Tryz.func28, Tryz.ntmps28
  go_wp2_with fail
  refine HMk.out.mono ?_
  rintro e W2 ⟨rfl, hw2⟩
  have hw2' := hw2.symm
  subst hw2'
  clear hw2
  go_wp2_with fail
  refine HSF.out.mono ?_
  rintro e W3 ⟨v, rfl, hx⟩
  have HX := hidC hx
  clear hx HSF HMk HC
  go_wp2
  go_ret
  exact ⟨v, rfl, HX.out⟩
end Go.Proofs.YtbmohlkcmhhpgaaGreat
/-
  BookShort: THE MATHEMATICS.
-/
namespace Go.Proofs.YtbmohlkcmhhpgaaGreat
open Go.RowKit Go.Sort

theorem filter_lt {d : List Int} {a b p : Int} (hp : p ∈ d) (h1 : a ≤ p) (h2 : p < b) : (d.filter (fun x => decide (x < a))).length + 1 ≤ (d.filter (fun x => decide (x < b))).length := by
  have h3 : ∀ (l : List Int), (l.filter (fun x => decide (x < a))).length ≤ (l.filter (fun x => decide (x < b))).length := by
    intro l
    induction l with
    | nil => simp
    | cons x l ih =>
      by_cases hx : x < a
      · have hx2 : x < b := by omega
        simp only [List.filter_cons, hx, hx2, decide_true, if_true, List.length_cons]
        omega
      · simp only [List.filter_cons, hx, decide_false, Bool.false_eq_true, if_false]
        split
        · simp only [List.length_cons]; omega
        · exact ih
  obtain ⟨A, C, rfl⟩ := List.append_of_mem hp
  have hA := h3 A
  have hC := h3 C
  have hpa : ¬ p < a := by omega
  simp only [List.filter_append, List.filter_cons, h2, hpa, decide_true, decide_false, Bool.false_eq_true, if_false, if_true, List.length_append, List.length_cons]
  omega
theorem keepR_len {d : List Int} {k : K} : ∀ (l : List V4) (nb : Int), (∀ v ∈ l, v.1 = k) → (keepR d k l nb).length ≤ (d.filter (fun x => decide (x < nb))).length
  | [], _, _ => by simp [keepR]
  | v :: l, nb, h => by
    have hv := h v (by simp)
    simp only [keepR, if_pos hv]
    split
    · rename_i hs
      have ih := keepR_len (d := d) l v.2.1 (fun u hu => h u (by simp [hu]))
      unfold seenN at hs
      rw [List.any_eq_true] at hs
      obtain ⟨p, hp, hq⟩ := hs
      simp only [Bool.and_eq_true, decide_eq_true_eq] at hq
      have := filter_lt hp hq.1 hq.2
      simp only [List.length_cons]
      omega
    · exact keepR_len l nb (fun u hu => h u (by simp [hu]))
theorem kpt_len {d : List Int} {k : K} {l : List V4} (h : ∀ v ∈ l, v.1 = k) : (kpt d l).length ≤ d.length + 1 := by
  unfold kpt
  have hr : ∀ v ∈ l.reverse, v.1 = k := fun v hv => h v (by simpa using hv)
  split
  · simp
  · rename_i u r e
    rw [e] at hr
    have hu := hr u (by simp)
    have h1 := keepR_len (d := d) (k := u.1) r u.2.1 (fun v hv => by rw [hu]; exact hr v (by simp [hv]))
    have h2 := List.length_filter_le (fun x => decide (x < u.2.1)) d
    simp only [List.length_append, List.length_reverse, List.length_cons, List.length_nil]
    omega
theorem keepR_twice {d : List Int} {k : K} : ∀ (l : List V4) (nb : Int), keepR d k (keepR d k l nb) nb = keepR d k l nb
  | [], _ => rfl
  | v :: l, nb => by
    by_cases hv : v.1 = k
    · by_cases hs : seenN d v.2.1 nb = true
      · simp only [keepR, if_pos hv, if_pos hs]
        rw [keepR_twice l]
      · simp only [keepR, if_pos hv, if_neg hs]
        exact keepR_twice l nb
    · simp only [keepR, if_neg hv]
      rw [keepR_twice l]
theorem kpt_twice (d : List Int) (l : List V4) : kpt d (kpt d l) = kpt d l := by
  cases e : l.reverse with
  | nil => unfold kpt; simp [e]
  | cons u r =>
    have h1 : kpt d l = (keepR d u.1 r u.2.1).reverse ++ [u] := by unfold kpt; rw [e]
    rw [h1]
    unfold kpt
    have h2 : ((keepR d u.1 r u.2.1).reverse ++ [u]).reverse = u :: keepR d u.1 r u.2.1 := by simp
    rw [h2]
    simp only
    rw [keepR_twice]
theorem kpt_pos {d : List Int} {l : List V4} (h : l ≠ []) : 1 ≤ (kpt d l).length := by
  unfold kpt
  split
  · rename_i e
    exact absurd (List.reverse_eq_nil_iff.1 e) h
  · simp
/-- each version is one of its key's -/
theorem sum_ofV {S : List K} (hS : S.Nodup) : ∀ (l : List V4), (∀ v ∈ l, v.1 ∈ S) → (S.map (fun k => (ofV k l).length)).sum = l.length
  | [], _ => by
    have : S.map (fun k => (ofV k []).length) = S.map (fun _ => 0) := rfl
    rw [this]
    clear this hS
    induction S with
    | nil => rfl
    | cons k S ih => simpa using ih
  | v :: l, h => by
    have ih := sum_ofV hS l (fun u hu => h u (by simp [hu]))
    obtain ⟨A, C, rfl⟩ := List.append_of_mem (h v (by simp))
    have hne := nodup_mid (f := id) (A := A) (C := C) (e := v.1) (by simpa using hS)
    have e1 : ∀ (X : List K), (∀ k ∈ X, k ≠ v.1) → X.map (fun k => (ofV k (v :: l)).length) = X.map (fun k => (ofV k l).length) := fun X hX => List.map_congr_left (fun k hk => by
      have : ¬ v.1 = k := fun e => hX k hk e.symm
      simp [ofV, this])
    have e2 : (ofV v.1 (v :: l)).length = (ofV v.1 l).length + 1 := by simp [ofV]
    rw [List.map_append, List.map_cons, List.sum_append_nat, List.sum_cons, e1 A hne.1, e1 C hne.2, e2]
    rw [List.map_append, List.map_cons, List.sum_append_nat, List.sum_cons] at ih
    simp only [List.length_cons]
    omega
/-- a second collect takes nothing -/
theorem CollN.twice {d : List Int} {all all' all'' : List V4} (h : CollN d all all') (h2 : CollN d all' all'') {S : List K} (hS : S.Nodup) (hk : ∀ v ∈ all', v.1 ∈ S) : all'' = all' := by
  refine h2.1.eq_of_length ?_
  rw [← sum_ofV hS all' hk, ← sum_ofV hS all'' (fun v hv => hk v (h2.1.subset hv))]
  congr 1
  refine List.map_congr_left (fun k _ => ?_)
  rw [h2.2 k, h.2 k, kpt_twice]
end Go.Proofs.YtbmohlkcmhhpgaaGreat
