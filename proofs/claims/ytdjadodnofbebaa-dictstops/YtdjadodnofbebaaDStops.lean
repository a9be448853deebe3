/-
  DictStops: THE WALK OF THE LAW.
-/
import Derived.Test.YtdjadodnofbebaaDIter
import Derived.Laws.EntriesVeiled
import Derived.Test.YtdjadodnofbebaaKNe
namespace Go.Proofs.Ytdjadodnofbebaa
open Go.RowKit Go.Sort Go.Shelf

attribute [local go_sem] Oper.semAt_some

abbrev fEach : Nat := 51
abbrev fNil : Nat := 29
abbrev TDp : TypeId := 23
theorem part_ok : PartOK fNil hash0 := fun w D M L P es k h => part_nil hash0 hash_nil (fun _ => by simp [hash0]) w D M L P es k h
/-- while keys are put -/
structure PS (w W : World) (D M L : Nat) (es : List En) (k : Nat) : Prop where
  b0 : W.heap[w.heap.size]? = some (.cells #[.bool false] 4 (0, 0))
  da : DA W D M L (hfn fNil) 1 es
  bel : Below w.heap.size w W
  ge : w.heap.size < D ∧ w.heap.size < M ∧ w.heap.size < L ∧ ∀ e ∈ es, w.heap.size < e.b
  len : es.length ≤ k ∧ (0 < k → 0 < es.length)
theorem PS.foot {w W : World} {D M L : Nat} {es : List En} {k : Nat} (h : PS w W D M L es k) {x : Nat} (hx : Ft M L es x) : w.heap.size < x := by
  rcases hx with rfl | rfl | ⟨e, he, rfl⟩
  · exact h.ge.2.1
  · exact h.ge.2.2.1
  · exact h.ge.2.2.2 e he
theorem PS.kept {w W W' : World} {D M L : Nat} {es : List En} {k : Nat} (h : PS w W D M L es k) (hb : Below W.heap.size W W') : PS w W' D M L es k :=
  ⟨(hb.block _ (blk_lt h.b0)).trans h.b0, h.da.kept hb, h.bel.trans (hb.mono h.bel.size), h.ge, h.len⟩
theorem ptI_one {w : World} {D M L : Nat} {hf : Value} {es : List En} (h : DA w D M L hf 1 es) : ptI 1 0 es = es := by
  unfold ptI pt
  rw [if_pos (by omega)]
  exact List.filter_eq_self.2 (fun e he => by have := (h.pp e he).1; simp; omega)
/-- one Put -/
theorem put_step (w W : World) (D M L : Nat) (es : List En) (k : Nat) (x : K) (v : Int) (h : PS w W D M L es k) (hx : KIn x) (hv : In64 v) (hk : k ≤ 140737488355328) (b5 : Nat) (h5 : W.heap[b5]? = some (.cells #[ptr D] TDp (0, 0))) :
    Calls Try.prog 22 #[ptr D, kv x, .int .i64 v] W fun e w' => (∃ a b, e = .returned (.tuple #[.int .i64 a, .bool b])) ∧ (∃ es', PS w w' D M L es' (k + 1)) ∧ w'.heap[b5]? = some (.cells #[ptr D] TDp (0, 0)) := by
  have n5 : ∀ y, Ft M L es y → b5 ≠ y := fun y hy e => by
    subst e
    rcases hy with rfl | rfl | ⟨e, he, rfl⟩
    · obtain ⟨_, _, h1, _⟩ := h.da.mp; rw [h5] at h1; cases h1
    · obtain ⟨_, h1, _⟩ := h.da.ln; rw [h5] at h1; cases h1
    · obtain ⟨_, _, h1⟩ := h.da.entry he; rw [h5] at h1; cases h1
  have fin : ∀ {w'}, Fr (Ft M L es) W w' → w'.heap[b5]? = some (.cells #[ptr D] TDp (0, 0)) ∧ w'.heap[w.heap.size]? = some (.cells #[.bool false] 4 (0, 0)) ∧ Below w.heap.size w w' := fun {w'} hF => by
    refine ⟨(hF.block b5 (blk_lt h5) (fun hy => n5 _ hy rfl)).trans h5, (hF.block _ (blk_lt h.b0) (fun hy => by have := h.foot hy; omega)).trans h.b0, ?_⟩
    exact h.bel.trans (hF.below h.bel.size (fun y hy => by have := h.foot hy; omega))
  cases hf : fd es x with
  | some e0 =>
    refine (put_old W D M L 1 _ es x v h.da hx hv e0 hf).mono ?_
    rintro e w' ⟨rfl, hd, hF⟩
    obtain ⟨f1, f2, f3⟩ := fin hF
    have he0 := (fd_some hf).1
    refine ⟨⟨_, _, rfl⟩, ⟨_, f2, hd, f3, ⟨h.ge.1, h.ge.2.1, h.ge.2.2.1, fun e he => ?_⟩, ?_⟩, f1⟩
    · obtain ⟨y, hy, rfl⟩ := List.mem_map.1 he
      rw [ud_b]; exact h.ge.2.2.2 y hy
    · rw [List.length_map]
      have := h.len.1
      have := List.length_pos_of_mem he0
      omega
  | none =>
    refine (put_new W D M L 1 fNil hash0 part_ok es x v h.da hx hv hf (by have := h.len.1; omega)).mono ?_
    rintro e w' ⟨E, rfl, hd, hE, hF⟩
    obtain ⟨f1, f2, f3⟩ := fin hF
    refine ⟨⟨_, _, rfl⟩, ⟨_, f2, hd, f3, ⟨h.ge.1, h.ge.2.1, h.ge.2.2.1, fun e he => ?_⟩, ?_⟩, f1⟩
    · rcases List.mem_append.1 he with he | he
      · exact h.ge.2.2.2 e he
      · simp at he; subst he
        have := blk_lt h.b0
        show w.heap.size < E
        omega
    · rw [List.length_append]
      have := h.len.1
      simp; omega

theorem stop_range (most : Int) : 1 ≤ wrap64 (1 + wrap64 ((IntKind.u64.wrap most).tmod 8)) ∧ wrap64 (1 + wrap64 ((IntKind.u64.wrap most).tmod 8)) ≤ 8 := by
  have h0 : 0 ≤ IntKind.u64.wrap most := by rw [IntKind.wrap_u64]; omega
  have h1 : (IntKind.u64.wrap most).tmod 8 = IntKind.u64.wrap most % 8 := Int.tmod_eq_emod_of_nonneg h0
  rw [h1]
  generalize IntKind.u64.wrap most = x at *
  unfold wrap64
  omega
/-- what stands from here on -/
structure S5 (w W : World) (D M L : Nat) (es : List En) (k B5 B8 B9 B g ge : Nat) (S : Int) : Prop where
  ps : PS w W D M L es k
  x5 : W.heap[B5]? = some (.cells #[ptr D] TDp (0, 0))
  x8 : W.heap[B8]? = some (.cells #[.slice (some ⟨g, 0, none⟩) es.length es.length] 58 (0, 0))
  x9 : W.heap[B9]? = some (.cells #[.int .i64 S] 3 (0, 0))
  il : IL W B ge es
  ks : KeysAt W (some ⟨g, 0, none⟩) (es.map En.k)
  gl : g < W.heap.size
theorem S5.kept {w W W' : World} {D M L : Nat} {es : List En} {k B5 B8 B9 B g ge : Nat} {S : Int} (h : S5 w W D M L es k B5 B8 B9 B g ge S) (hb : Below W.heap.size W W') : S5 w W' D M L es k B5 B8 B9 B g ge S :=
  ⟨h.ps.kept hb, (hb.block _ (blk_lt h.x5)).trans h.x5, (hb.block _ (blk_lt h.x8)).trans h.x8, (hb.block _ (blk_lt h.x9)).trans h.x9, h.il.below hb (blk_lt h.il.box) h.il.gl, h.ks.kept hb, Nat.lt_of_lt_of_le h.gl hb.size⟩
theorem keeps_below {W W' : World} (h : Below W.heap.size W W') : KeepsOthers W W' := ⟨h.size, fun k _ hk _ => (h.block k (blk_lt hk)).trans hk⟩
theorem keeps_drewN (W : World) (q : Nat) : KeepsOthers W (W.drewN q) := ⟨Nat.le_refl _, fun _ _ h _ => h⟩
theorem below_drew0 (B : Nat) (W : World) (q : Nat) : Below B W (W.drewN q) := ⟨rfl, rfl, rfl, Nat.le_refl _, fun _ _ => rfl⟩
/-- what has come is the list's beginning -/
def Chn (l : List En) (hl : ∀ e ∈ l, KIn e.k ∧ In64 e.v) (pre : List PX) : Prop := pre = upto (pd l hl) pre.length
theorem chn_nil (l : List En) (hl : ∀ e ∈ l, KIn e.k ∧ In64 e.v) : Chn l hl [] := rfl
theorem chn_upto (l : List En) (hl : ∀ e ∈ l, KIn e.k ∧ In64 e.v) (k : Nat) : Chn l hl (upto (pd l hl) k) := by unfold Chn; rw [upto_length]
theorem chn_snoc {l : List En} {hl : ∀ e ∈ l, KIn e.k ∧ In64 e.v} {pre : List PX} {x : PX} (h : Chn l hl pre) (hq : pre.length < l.length) : Chn l hl (pre ++ [x]) ↔ x.1 = (l[pre.length].k, l[pre.length].v) := by
  unfold Chn at *
  rw [List.length_append, List.length_singleton, upto_succ, ← h, List.append_cancel_left_eq, List.cons.injEq, ← pd_at hl hq]
  exact ⟨fun h => congrArg Subtype.val h.1, fun h => ⟨Subtype.ext h, rfl⟩⟩
/-- a frame, slot by slot -/
def lit (f : Nat → Value) : Array Value := #[f 0, f 1, f 2, f 3, f 4, f 5, f 6, f 7, f 8, f 9, f 10, f 11, f 12, f 13, f 14, f 15, f 16, f 17, f 18, f 19, f 20, f 21, f 22, f 23, f 24, f 25, f 26, f 27, f 28, f 29, f 30, f 31, f 32, f 33, f 34, f 35, f 36, f 37, f 38, f 39, f 40, f 41, f 42, f 43, f 44, f 45, f 46, f 47, f 48, f 49, f 50, f 51, f 52, f 53, f 54, f 55, f 56, f 57, f 58, f 59, f 60, f 61, f 62, f 63, f 64, f 65, f 66, f 67, f 68, f 69, f 70, f 71, f 72, f 73, f 74, f 75, f 76, f 77, f 78, f 79, f 80, f 81, f 82, f 83, f 84, f 85, f 86, f 87, f 88, f 89, f 90, f 91, f 92, f 93, f 94, f 95, f 96, f 97, f 98, f 99, f 100, f 101, f 102, f 103, f 104, f 105, f 106, f 107, f 108, f 109, f 110, f 111, f 112, f 113, f 114, f 115, f 116, f 117, f 118, f 119]
theorem arr_eq (arr : Array Value) : arr = ((List.range arr.size).map (fun i => arr.getD i undef)).toArray := by
  apply Array.ext'
  apply List.ext_getElem?
  intro i
  by_cases hi : i < arr.size
  · simp [hi, Array.getD]
  · simp [hi]
theorem lit_eq (arr : Array Value) (h : arr.size = 120) : arr = lit (fun i => arr.getD i undef) := by
  have h1 := arr_eq arr
  rw [h] at h1
  exact h1
def addrOf : Value → Addr
  | .pointer (some p) => p
  | _ => ⟨0, 0, none⟩
/-- a loop's mark -/
abbrev mk (d : Nat) : Deferred := { target := .collected d, args := #[] }
/-- the outer loop's relation -/
structure OL (w5 : World) (ao : Option Addr) (k cap b0 B5 B8 B9 B B11 r : Nat) (Ds : List Nat) (a : Act) (W : World) : Prop where
  r3 : r ≤ 3
  dl : Ds.length = r
  df : a.defers = Ds.map mk
  sz : a.tmps.size = 120
  t0 : a.tmps.getD 0 undef = .slice ao k cap
  t4 : a.tmps.getD 4 undef = ptr b0
  t5 : a.tmps.getD 5 undef = ptr B5
  t8 : a.tmps.getD 8 undef = ptr B8
  t9 : a.tmps.getD 9 undef = ptr B9
  t10 : a.tmps.getD 10 undef = .func (.func fEach) #[] #[ptr B]
  t11 : a.tmps.getD 11 undef = ptr B11
  bel : Below w5.heap.size w5 W
  bx : W.heap[B11]? = some (.cells #[.int .i64 (r : Int)] 3 (0, 0))
  ge : w5.heap.size ≤ B11
  ds : ∀ d ∈ Ds, w5.heap.size ≤ d ∧ W.heap[d]? = some (.deferred (some []))
  dp : Ds.Pairwise (· > ·)
def mu (a : Act) (W : World) : Nat := 3 - (intOf ((W.cell? (addrOf (a.tmps.getD 11 undef))).getD undef)).toNat

set_option maxHeartbeats 8000000 in
set_option maxRecDepth 100000 in
theorem stops_any (w : World) (ao : Option Addr) (n cap : Nat) (L : List K) (most : Int) (hn : n = L.length) (hL : KeysAt w ao L) (hin : ∀ k ∈ L, KIn k) (hm : n * 16 ≤ 140737488351232) :
    Calls Try.prog 6 #[.slice ao n cap, .int .i64 most] w fun e w' => e = .returned (.bool true) ∧ Below w.heap.size w w' := by
  have HL : Hid (∀ W, Below w.heap.size w W → KeysAt W ao L) := fun W hW => hL.kept hW
  have HN : Hid (n = L.length ∧ ∀ k ∈ L, KIn k) := ⟨hn, hin⟩
  clear hL hn hin
  refine (callsIn_wide (n := 10)).1 ?_
  refine callsIn_of_wp_marks Try.func6 rfl trivial ?_ rfl
  refine wpIn_wide.2 ?_
  simp only [Try.ntmps6, List.size_toArray, List.length_cons, List.length_nil, Nat.reduceAdd, Nat.reduceSub, Array.replicate_succ, Array.replicate_zero, List.push_toArray, List.append_toArray, List.nil_append, List.cons_append]
  go_wp2_with fail
  have HB0 : Hid (Below w.heap.size w (w.alloc (.cells #[.bool false] 4))) := (Below.refl _ _).alloc (Nat.le_refl _) _
  have HX0 : Hid ((w.alloc (.cells #[.bool false] 4)).heap[w.heap.size]? = some (.cells #[.bool false] 4 (0, 0))) := heap_alloc_new _ _ rfl
  generalize w.alloc (.cells #[.bool false] 4) = W0 at *
  refine (new_nil W0 1 (by omega) (by omega)).mono ?_
  rintro e W1 ⟨D, M, Ld, rfl, hda, hge, hb1⟩
  have HPS : Hid (PS w (W1.alloc (.cells #[ptr D] TDp)) D M Ld [] 0) := by
    have hx := blk_lt HX0.out
    have h1 : PS w W1 D M Ld [] 0 := ⟨(hb1.block _ hx).trans HX0.out, hda, HB0.out.trans (hb1.mono HB0.out.size), ⟨by omega, by omega, by omega, by simp⟩, by simp⟩
    exact h1.kept ((Below.refl _ _).alloc (Nat.le_refl _) _)
  have H5 : Hid ((W1.alloc (.cells #[ptr D] TDp)).heap[W1.heap.size]? = some (.cells #[ptr D] TDp (0, 0)) ∧ w.heap.size < W1.heap.size) := ⟨heap_alloc_new _ _ rfl, by have := blk_lt HX0.out; have := hb1.size; omega⟩
  clear hda hge hb1 HB0 HX0
  go_wp2
  generalize W1.alloc (.cells #[.pointer (some ⟨D, 0, none⟩)] TDp) = W2 at *
  generalize W1.heap.size = B5 at *
  go_loopw [7] (fun i wr => ∃ k : Nat, k ≤ n ∧ i = .int .i64 (k : Int) ∧ Hid (∃ es, PS w wr D M Ld es k) ∧ Hid (wr.heap[B5]? = some (.cells #[ptr D] TDp (0, 0)))) (fun i _ => n - (intOf i).toNat)
  case atStart => exact ⟨0, Nat.zero_le _, rfl, ⟨[], HPS.out⟩, H5.out.1⟩
  case round =>
    obtain ⟨k, hk, rfl, HP, Hb5⟩ := hrel
    by_cases hlt : k < n
    · have hkl : k < L.length := by have := HN.out.1; omega
      obtain ⟨b, off, hao, c1, c2⟩ : ∃ b off, ao = some ⟨b, off, none⟩ ∧ (∀ W, Below w.heap.size w W → W.cell? ⟨b, off + k * 2, none⟩ = some (.int .i64 (kd L k).1)) ∧ (∀ W, Below w.heap.size w W → W.cell? ⟨b, off + k * 2 + 1, none⟩ = some (.int .i64 (kd L k).2)) := by
        rcases HL.out w (Below.refl _ _) with h0 | ⟨b, off, e, hc⟩
        · rw [h0] at hkl; simp at hkl
        · refine ⟨b, off, e, fun W hW => ?_, fun W hW => ?_⟩
          · exact (hW.cell (p := ⟨b, off + k * 2, none⟩) (cell_lt (p := ⟨b, off + k * 2, none⟩) (KeysAt.at hc k hkl).1)).trans (KeysAt.at hc k hkl).1
          · exact (hW.cell (p := ⟨b, off + k * 2 + 1, none⟩) (cell_lt (p := ⟨b, off + k * 2 + 1, none⟩) (KeysAt.at hc k hkl).2)).trans (KeysAt.at hc k hkl).2
      have HC : Hid (∀ W, Below w.heap.size w W → W.cell? ⟨b, off + k * 2, none⟩ = some (.int .i64 (kd L k).1) ∧ W.cell? ⟨b, off + k * 2 + 1, none⟩ = some (.int .i64 (kd L k).2)) := fun W hW => ⟨c1 W hW, c2 W hW⟩
      have HK : Hid (KIn (kd L k)) := HN.out.2 _ (kd_mem hkl)
      subst hao
      clear c1 c2
      obtain ⟨es, hps⟩ := HP.out
      have HPs : Hid (PS w wr D M Ld es k) := hps
      clear hps
      have hkm : k ≤ 140737488355328 := by omega
      have HPut : Hid (Calls Try.prog 22 #[ptr D, .agg #[.int .i64 (kd L k).1, .int .i64 (kd L k).2], .int .i64 (k : Int)] wr.drew fun e w' => (∃ a b, e = .returned (.tuple #[.int .i64 a, .bool b])) ∧ (∃ es', PS w w' D M Ld es' (k + 1)) ∧ w'.heap[B5]? = some (.cells #[ptr D] TDp (0, 0))) :=
        put_step w wr.drew D M Ld es k (kd L k) (k : Int) (HPs.out.kept ⟨rfl, rfl, rfl, Nat.le_refl _, fun _ _ => rfl⟩) HK.out (by unfold In64; omega) hkm B5 Hb5.out
      have x5 : wr.cell? ⟨B5, 0, none⟩ = some (ptr D) := by rw [World.cell?, Hb5.out]; rfl
      obtain ⟨y0, y1⟩ := HC.out wr HPs.out.bel
      generalize kd L k = z at *
      obtain ⟨z1, z2⟩ := z
      simp only at y0 y1
      go_wp2_with fail
      go_region_held3 (fun w' => w'.cell? ⟨B5, 0, none⟩ = some (ptr D) ∧ w'.cell? ⟨b, off + k * 2, none⟩ = some (.int .i64 z1) ∧ w'.cell? ⟨b, off + k * 2 + 1, none⟩ = some (.int .i64 z2)) (first | exact ⟨by rw [World.cell?, HQ5.out]; rfl, HC.out _ HQb.out⟩ | go_keep) (first | (go_at_call 22; refine HPut.out.mono ?_; rintro e wq ⟨⟨va, vb, rfl⟩, hq1, hq5⟩; have HQ1 : Hid (∃ es', PS w wq D M Ld es' (k + 1)) := hq1; have HQ5 : Hid (wq.heap[B5]? = some (.cells #[ptr D] TDp (0, 0))) := hq5; have HQb : Hid (Below w.heap.size w wq) := (by obtain ⟨es', hh⟩ := hq1; exact hh.bel); clear hq1 hq5))
      go_wp2
      go_roundw
      case rel => exact ⟨k + 1, by omega, by go_num, HQ1, HQ5⟩
      case measure => simp [intOf]; omega
    · obtain rfl : k = n := by omega
      obtain ⟨es, hps⟩ := HP.out
      have HPs : Hid (PS w wr D M Ld es k) := hps
      clear hps HP
      have x5 : wr.cell? ⟨B5, 0, none⟩ = some (ptr D) := by rw [World.cell?, Hb5.out]; rfl
      have HES : Hid (∀ e ∈ es, KIn e.k ∧ In64 e.v) := fun e he => (HPs.out.da.pp e he).2
      have hml : es.length ≤ k := HPs.out.len.1
      have HKs := keys_any wr D M Ld 1 _ es 0 HPs.out.da (by rw [ptI_one HPs.out.da]; omega)
      rw [ptI_one HPs.out.da] at HKs
      go_wp2_with fail
      refine HKs.mono ?_
      clear HKs
      rintro e w3 ⟨g, rfl, HRow, hb3⟩
      have hs3 := hb3.size
      have HB4 : Hid (Below wr.heap.size wr ((w3.alloc (.cells #[.slice (some ⟨g, 0, none⟩) es.length es.length] 58)).alloc (.cells #[.int .i64 (wrap64 (1 + wrap64 ((IntKind.u64.wrap most).tmod 8)))] 3))) := (hb3.alloc hs3 _).alloc (by simp; omega) _
      have H8 : Hid (((w3.alloc (.cells #[.slice (some ⟨g, 0, none⟩) es.length es.length] 58)).alloc (.cells #[.int .i64 (wrap64 (1 + wrap64 ((IntKind.u64.wrap most).tmod 8)))] 3)).heap[w3.heap.size]? = some (.cells #[.slice (some ⟨g, 0, none⟩) es.length es.length] 58 (0, 0)) ∧ ((w3.alloc (.cells #[.slice (some ⟨g, 0, none⟩) es.length es.length] 58)).alloc (.cells #[.int .i64 (wrap64 (1 + wrap64 ((IntKind.u64.wrap most).tmod 8)))] 3)).heap[w3.heap.size + 1]? = some (.cells #[.int .i64 (wrap64 (1 + wrap64 ((IntKind.u64.wrap most).tmod 8)))] 3 (0, 0))) := ⟨(heap_alloc_old _ _ (by simp)).trans (heap_alloc_new _ _ rfl), heap_alloc_new _ _ (by simp)⟩
      have HKs : Hid (OwnK ((w3.alloc (.cells #[.slice (some ⟨g, 0, none⟩) es.length es.length] 58)).alloc (.cells #[.int .i64 (wrap64 (1 + wrap64 ((IntKind.u64.wrap most).tmod 8)))] 3)) wr.heap.size (.slice (some ⟨g, 0, none⟩) es.length es.length) (es.map En.k)) := by
        have h1 : OwnK w3 wr.heap.size (.slice (some ⟨g, 0, none⟩) es.length es.length) (es.map En.k) := by unfold OwnK; rw [List.length_map]; exact HRow.out
        exact (h1.alloc _).alloc _
      obtain ⟨hS1, hS8⟩ := stop_range most
      clear HRow hb3 hs3
      go_upto_region 10 with fail
      generalize (w3.alloc (.cells #[.slice (some ⟨g, 0, none⟩) es.length es.length] 58)).alloc (.cells #[.int .i64 (wrap64 (1 + wrap64 ((IntKind.u64.wrap most).tmod 8)))] 3) = W4 at *
      generalize wrap64 (1 + wrap64 ((IntKind.u64.wrap most).tmod 8)) = S at *
      generalize w3.heap.size + 1 = B9 at *
      generalize w3.heap.size = B8 at *
      have HP4 : Hid (PS w W4 D M Ld es k ∧ W4.heap[B5]? = some (.cells #[ptr D] TDp (0, 0))) := ⟨HPs.out.kept HB4.out, (HB4.out.block _ (blk_lt Hb5.out)).trans Hb5.out⟩
      have x5' : W4.cell? ⟨B5, 0, none⟩ = some (ptr D) := by rw [World.cell?, HP4.out.2]; rfl
      have HEc := each_any W4 D M Ld 1 _ es 0 HP4.out.1.da (by rw [ptI_one HP4.out.1.da]; omega)
      rw [ptI_one HP4.out.1.da] at HEc
      clear x5
      go_wp2_with fail
      refine HEc.mono ?_
      clear HEc
      rintro e w5 ⟨B, ge, rfl, HEl⟩
      have HS5 : Hid (S5 w w5 D M Ld es k B5 B8 B9 B g ge S) := by
        have hb : Below W4.heap.size W4 w5 := HEl.out.bel
        obtain ⟨ao', cap', e', hk5, _, _⟩ := HKs.out.slice
        have e2 : ao' = some ⟨g, 0, none⟩ := by simp at e'; exact e'.1.symm
        subst e2
        exact ⟨HP4.out.1.kept hb, (hb.block _ (blk_lt HP4.out.2)).trans HP4.out.2, (hb.block _ (blk_lt H8.out.1)).trans H8.out.1, (hb.block _ (blk_lt H8.out.2)).trans H8.out.2, HEl.out.il, hk5.kept hb, Nat.lt_of_lt_of_le (HKs.out.lt g rfl).2 hb.size⟩
      clear HEl HP4 x5' HB4 H8 HKs
      go_upto_region 12 with fail
      refine wp_loop (fun a W => ∃ r Ds B11, OL w5 ao k cap w.heap.size B5 B8 B9 B B11 r Ds a W) mu ?start ?round
      case start => exact ⟨0, [], w5.heap.size, by omega, rfl, rfl, rfl, rfl, rfl, rfl, rfl, rfl, rfl, rfl, (Below.refl _ _).alloc (Nat.le_refl _) _, heap_alloc_new _ _ rfl, Nat.le_refl _, by simp, List.Pairwise.nil⟩
      case round =>
        rintro a W ⟨r, Ds, B11, hO⟩
        have HO : Hid (OL w5 ao k cap w.heap.size B5 B8 B9 B B11 r Ds a W) := hO
        obtain ⟨tm, df⟩ := a
        have e1 := lit_eq tm hO.sz
        have t0 := hO.t0
        have t4 := hO.t4
        have t5 := hO.t5
        have t8 := hO.t8
        have t9 := hO.t9
        have t10 := hO.t10
        have t11 := hO.t11
        have hdf := hO.df
        simp only at t0 t4 t5 t8 t9 t10 t11 e1 hdf
        generalize hf' : (fun i => tm.getD i undef) = f at *
        have g0 : f 0 = .slice ao k cap := by rw [← hf']; exact t0
        have g4 : f 4 = ptr w.heap.size := by rw [← hf']; exact t4
        have g5 : f 5 = ptr B5 := by rw [← hf']; exact t5
        have g8 : f 8 = ptr B8 := by rw [← hf']; exact t8
        have g9 : f 9 = ptr B9 := by rw [← hf']; exact t9
        have g10 : f 10 = .func (.func fEach) #[] #[ptr B] := by rw [← hf']; exact t10
        have g11 : f 11 = ptr B11 := by rw [← hf']; exact t11
        unfold lit at e1
        rw [g0, g4, g5, g8, g9, g10, g11] at e1
        have hmu : mu { tmps := tm, defers := df } W = 3 - r := by unfold mu; rw [t11]; show 3 - (intOf ((W.cell? ⟨B11, 0, none⟩).getD undef)).toNat = _; rw [World.cell?, hO.bx]; simp [intOf]
        rw [hmu]
        subst e1 hdf
        have r0 : W.cell? ⟨B11, 0, none⟩ = some (.int .i64 (r : Int)) := by rw [World.cell?, hO.bx]; rfl
        have hr3 := hO.r3
        clear t0 t4 t5 t8 t9 t10 t11 g0 g4 g5 g8 g9 g10 g11 hO hmu hf'
        by_cases hr : r < 3
        · have hri : (r : Int) < 3 := by omega
          go_wp2_with fail
          have bN : Boxed (W.alloc (.cells #[.int .i64 0] 3)) W.heap.size 3 (.int .i64 0) := Boxed.new W _ _
          have hbA : Below W.heap.size W (W.alloc (.cells #[.int .i64 0] 3)) := (Below.refl _ W).alloc (Nat.le_refl _) _
          have HS6 : Hid (Below w5.heap.size w5 (W.alloc (.cells #[.int .i64 0] 3)) ∧ w5.heap.size ≤ W.heap.size ∧ B11 < W.heap.size ∧ (W.alloc (.cells #[.int .i64 0] 3)).heap[B11]? = some (.cells #[.int .i64 (r : Int)] 3 (0, 0)) ∧ ∀ d ∈ Ds, d < W.heap.size ∧ (W.alloc (.cells #[.int .i64 0] 3)).heap[d]? = some (.deferred (some []))) := by
            have hO := HO.out
            have hs := hO.bel.size
            exact ⟨hO.bel.trans (hbA.mono hs), hs, blk_lt hO.bx, (hbA.block _ (blk_lt hO.bx)).trans hO.bx, fun d hd => ⟨blk_lt (hO.ds d hd).2, (hbA.block _ (blk_lt (hO.ds d hd).2)).trans (hO.ds d hd).2⟩⟩
          clear r0 hbA
          generalize W.alloc (.cells #[.int .i64 0] 3) = W6 at *
          generalize W.heap.size = Bn at *
          have hlt6 := bN.lt
          have HSn : Hid (∀ W', Below Bn W6 W' → S5 w W' D M Ld es k B5 B8 B9 B g ge S ∧ W'.heap[B11]? = some (.cells #[.int .i64 (r : Int)] 3 (0, 0)) ∧ Below w5.heap.size w5 W') := fun W' hW => by
            have h1 : Below w5.heap.size w5 W' := HS6.out.1.trans (hW.mono HS6.out.2.1)
            exact ⟨HS5.out.kept h1, (hW.block _ HS6.out.2.2.1).trans HS6.out.2.2.2.1, h1⟩
          have hIl : IL W6 B ge es ∧ B < Bn ∧ ge < Bn := by
            have h5 := HS5.out
            have h6 := HS6.out.2.1
            have h7 := blk_lt h5.il.box
            have h8 := h5.il.gl
            exact ⟨(HSn.out W6 (Below.refl _ _)).1.il, by omega, by omega⟩
          refine (wpIn_wide (n := 10)).1 ?_
          refine loop_cut 4 (fun W' => ∃ j : Nat, j ≤ es.length ∧ (j = es.length ∨ ((j : Int) = S ∧ r < 2)) ∧ Boxed W' Bn 3 (.int .i64 (j : Int)) ∧ Below Bn W6 W') (fun _ _ h => h) ?loop ?rest
          case loop =>
            refine wpIn_rangeFunc_ownH rfl (by omega) (gf := fEach) (lb := #[ptr B]) rfl trivial (enters_of Try.func51 (by kernel_rfl) rfl)
              (each_stops Fence.wide 9 trivial rfl (by omega) B ge Bn es.length es HES.out rfl (by omega) W6 hIl.1 hIl.2 (by omega)) belowK_t (belowK_b (by omega)) (Below.refl _ _) (fun _ => rfl)
              (fun pre W' => (Chn es HES.out pre ∧ Boxed W' Bn 3 (.int .i64 (pre.length : Int))) ∧ Below Bn W6 W')
              (fun c pre W' => (c = .ret ∧ ¬ Chn es HES.out pre) ∨ (c = .exit 4 ∧ Chn es HES.out pre ∧ ((pre.length : Int) = S ∧ r < 2) ∧ Boxed W' Bn 3 (.int .i64 (pre.length : Int)) ∧ Below Bn W6 W'))
              (OwnFrom.and (OwnFrom.and (ownFrom_pure _ _) (Own.from (boxed_own _ _ _) _)) (ownFrom_below (by omega) (by omega)))
              (fun c s X Y row hs hg hr => hs.elim .inl (fun ⟨h1, h2, h3, h4, h5⟩ => .inr ⟨h1, h2, h3, boxed_own Bn 3 (fun (p : List PX) => Value.int .i64 (p.length : Int)) s X Y row h4 hg (fun r e => (hr r e).2), h5.grown hg (by have := h5.size; omega) (fun k e => by have := (hr k e).1; omega)⟩))
              ⟨⟨chn_nil es HES.out, bN⟩, Below.refl _ _⟩
              (fun x a' W' => ∃ Bx, Bn < Bx ∧ KBoxed W' Bx x.1.1.1 x.1.1.2 ∧ a' = { tmps := #[(.slice ao k cap), f 1, f 2, f 3, (ptr w.heap.size), (ptr B5), f 6, f 7, (ptr B8), (ptr B9), (.func (.func fEach) #[] #[ptr B]), (ptr B11), (ptr Bn), (ptr Bx), (.int .i64 x.1.2), f 15, f 16, f 17, f 18, f 19, f 20, f 21, f 22, f 23, f 24, f 25, f 26, f 27, f 28, f 29, f 30, f 31, f 32, f 33, f 34, f 35, f 36, f 37, f 38, f 39, f 40, f 41, f 42, f 43, f 44, f 45, f 46, f 47, f 48, (.int .i64 (r : Int)), (.bool true), f 51, f 52, (.func (.func fEach) #[] #[ptr B]), (.agg #[.int .i64 x.1.1.1, .int .i64 x.1.1.2]), (.int .i64 x.1.2), f 56, f 57, f 58, f 59, f 60, f 61, f 62, f 63, f 64, f 65, f 66, f 67, f 68, f 69, f 70, f 71, f 72, f 73, f 74, f 75, f 76, f 77, f 78, f 79, f 80, f 81, f 82, f 83, f 84, f 85, f 86, f 87, f 88, f 89, f 90, f 91, f 92, f 93, f 94, f 95, f 96, f 97, f 98, f 99, f 100, f 101, f 102, f 103, f 104, f 105, f 106, f 107, f 108, f 109, f 110, f 111, f 112, f 113, f 114, f 115, f 116, f 117, f 118, f 119], defers := [] })
              (fun x a' _ X Y row hs hg hr => by obtain ⟨Bx, e1, e2, e3⟩ := hs; exact ⟨Bx, e1, e2.own hg (fun r e => (hr r e).2), e3⟩)
              ?assign ?body ?done ?stop
            case assign =>
              rintro l pre x W' K ⟨⟨hp, b1⟩, hB1⟩ hK
              gi_wp2
              exact hK _ _ ((KeepsOthers.alloc _ _).from _) ((Below.refl _ W').alloc (by have := b1.lt; omega) _) ⟨⟨hp, b1.alloc _⟩, hB1.alloc (by have := b1.lt; omega) _⟩ ⟨W'.heap.size, b1.lt, KBoxed.new W' _ _, rfl⟩
            case body =>
              rintro l pre x a' W' hl ⟨rr, hrr⟩ ⟨⟨hp, b1⟩, hB1⟩ ⟨Bx, hBx, bX, rfl⟩ hlt
              have HCh := chn_snoc (x := x) hp hlt
              obtain ⟨⟨⟨xt, xr⟩, xv⟩, hxk, hxv⟩ := x
              have HC0 : Hid (Chn es HES.out (pre ++ [(⟨((xt, xr), xv), hxk, hxv⟩ : PX)]) ↔ (((xt, xr), xv) : K × Int) = (es[pre.length].k, es[pre.length].v)) := HCh
              clear HCh
              have HSW := (HSn.out W' hB1)
              have c5 : W'.cell? ⟨B5, 0, none⟩ = some (ptr D) := blk_cell HSW.1.x5 rfl
              have x1 := bX.cell.1
              have x2 := bX.cell.2
              simp only at x1 x2
              have HGet : Hid (Calls Try.prog 28 #[ptr D, .agg #[.int .i64 xt, .int .i64 xr]] W' fun e w' => e = .returned (.tuple #[.int .i64 (vv (fd es (xt, xr))), .bool (fd es (xt, xr)).isSome]) ∧ Below W'.heap.size W' w') := get_any W' D M Ld 1 _ es (xt, xr) HSW.1.ps.da hxk
              have hbn := b1.lt
              have HFd : Hid ((xt, xr) = es[pre.length].k → fd es (xt, xr) = some es[pre.length]) := fun e => by rw [e]; exact fd_of HSW.1.ps.da.kn (List.getElem_mem hlt)
              gi_wp2_with fail
              refine ⟨trivial, (CallsIn.inRound l (callsIn_wide.2 HGet.out)).mono ?_⟩
              rintro e W8 ⟨rfl, hb8⟩
              have HB8 : Hid (Below W'.heap.size W' W8 ∧ Below Bn W' W8) := ⟨hb8, hb8.mono (by omega)⟩
              have b8 : Boxed W8 Bn 3 (.int .i64 (pre.length : Int)) := (hb8.block _ b1.lt).trans b1
              have bX8 : KBoxed W8 Bx xt xr := (hb8.block _ bX.lt).trans bX
              have HS8 := HSn.out W8 (hB1.trans (HB8.out.2))
              clear c5 x1 x2 bX HGet hb8 HSW
              have x1 := bX8.cell.1
              have x2 := bX8.cell.2
              have cN := b8.cell
              have fN := b8.frozen
              have cL : W8.cell? ⟨B8, 0, none⟩ = some (.slice (some ⟨g, 0, none⟩) es.length es.length) := blk_cell HS8.1.x8 rfl
              have cS : W8.cell? ⟨B9, 0, none⟩ = some (.int .i64 S) := blk_cell HS8.1.x9 rfl
              have cR : W8.cell? ⟨B11, 0, none⟩ = some (.int .i64 (r : Int)) := blk_cell HS8.2.1 rfl
              have c0 : W8.cell? ⟨w.heap.size, 0, none⟩ = some (.bool false) := blk_cell HS8.1.ps.b0 rfl
              have f0 := frozen_of_row W8 w.heap.size 0 _ _ HS8.1.ps.b0
              have hB9 : B9 < Bn ∧ B11 < Bn := by
                have h5 := blk_lt HS5.out.x9
                have h6 := HS6.out
                exact ⟨by omega, h6.2.2.1⟩
              obtain ⟨y1, y2⟩ : W8.cell? ⟨g, pre.length * 2, none⟩ = some (.int .i64 es[pre.length].k.1) ∧ W8.cell? ⟨g, pre.length * 2 + 1, none⟩ = some (.int .i64 es[pre.length].k.2) := by
                rcases HS8.1.ks with h0 | ⟨b, off, e, hc⟩
                · rw [List.map_eq_nil_iff] at h0; rw [h0] at hlt; simp at hlt
                · cases e
                  have := KeysAt.at hc pre.length (by simpa using hlt)
                  simpa [kd, hlt] using this
              have e1 : decide ((es.length : Int) ≤ (pre.length : Int)) = false := by simp; omega
              have e2 : decide (es.length ≤ pre.length) = false := by simp; omega
              clear HS8
              by_cases hz : (xt, xr) = es[pre.length].k
              · have hfd := HFd.out hz
                rw [hfd]
                simp only [vv, Option.isSome_some]
                rw [← hz] at y1 y2
                simp only at y1 y2
                have hq := run_neKey xt xr xt xr
                simp only [decide_true, Bool.not_true] at hq
                have hgd := fun op x y => run_eqGuard op x y xt xr xt xr
                by_cases hv : xv = es[pre.length].v
                · have HC : Hid (Chn es HES.out (pre ++ [(⟨((xt, xr), xv), hxk, hxv⟩ : PX)])) := HC0.out.2 (by rw [hz, hv])
                  rw [← hv]
                  clear hz hv hfd HFd HC0
                  by_cases hs : (pre.length : Int) + 1 = S
                  · have hs' : ((pre.length : Int) + 1 == S) = true := by simp; exact hs
                    have Hs : Hid ((pre.length : Int) + 1 = S) := hs
                    clear hs
                    by_cases hr2 : r < 2
                    · have hr2i : (r : Int) < 2 := by omega
                      gi_wp2_with fail
                      refine region_round (F := Fence.wide) (l := l) rfl (by kernel_rfl) (by kernel_rfl) (by kernel_rfl) ?_
                      repeat (gi_big_quiet_step (fail))
                      refine wpQuietIn_nil ?_
                      intro _ hw'
                      obtain ⟨nq, hw''⟩ := hw'
                      subst hw''
                      have cS' : ((W8.drewN nq).setCell ⟨Bn, 0, none⟩ (.int .i64 ((pre.length : Int) + 1))).cell? ⟨B9, 0, none⟩ = some (.int .i64 S) := (World.cell?_setCell_other _ _ _ _ (by simp; try omega)).trans cS
                      have cR' : ((W8.drewN nq).setCell ⟨Bn, 0, none⟩ (.int .i64 ((pre.length : Int) + 1))).cell? ⟨B11, 0, none⟩ = some (.int .i64 (r : Int)) := (World.cell?_setCell_other _ _ _ _ (by simp; try omega)).trans cR
                      have cN' : ((W8.drewN nq).setCell ⟨Bn, 0, none⟩ (.int .i64 ((pre.length : Int) + 1))).cell? ⟨Bn, 0, none⟩ = some (.int .i64 ((pre.length : Int) + 1)) := ((show Boxed (W8.drewN nq) Bn 3 (.int .i64 (pre.length : Int)) from b8).set _).cell
                      have HE : Hid (KeepsFrom W6.heap.size W' ((W8.drewN nq).setCell ⟨Bn, 0, none⟩ (.int .i64 ((pre.length : Int) + 1))) ∧ Below Bn W' ((W8.drewN nq).setCell ⟨Bn, 0, none⟩ (.int .i64 ((pre.length : Int) + 1))) ∧ Boxed ((W8.drewN nq).setCell ⟨Bn, 0, none⟩ (.int .i64 ((pre.length : Int) + 1))) Bn 3 (.int .i64 ((pre ++ [(⟨((xt, xr), xv), hxk, hxv⟩ : PX)]).length : Int)) ∧ Below Bn W6 ((W8.drewN nq).setCell ⟨Bn, 0, none⟩ (.int .i64 ((pre.length : Int) + 1)))) := by
                        have h1 := below_drew0 Bn W8 nq
                        have h2 : Below Bn W' ((W8.drewN nq).setCell ⟨Bn, 0, none⟩ (.int .i64 ((pre.length : Int) + 1))) := (HB8.out.2.trans h1).setCell (p := ⟨Bn, 0, none⟩) (Nat.le_refl _) _
                        refine ⟨(((keeps_below HB8.out.1).trans (keeps_drewN W8 nq)).trans (KeepsOthers.setCell _ _ _)).from _, h2, ?_, hB1.trans h2⟩
                        have h3 := (show Boxed (W8.drewN nq) Bn 3 (.int .i64 (pre.length : Int)) from b8).set (.int .i64 ((pre.length : Int) + 1))
                        rw [List.length_append, List.length_singleton]
                        push_cast
                        exact h3
                      gi_wp2_with fail
                      exact ⟨HE.out.1, .inr ⟨rfl, HC.out, ⟨by rw [List.length_append, List.length_singleton]; push_cast; exact Hs.out, hr2⟩, HE.out.2.2.1, HE.out.2.2.2⟩⟩
                    · have hr2i : ¬ (r : Int) < 2 := by omega
                      gi_wp2_with fail
                      refine region_round (F := Fence.wide) (l := l) rfl (by kernel_rfl) (by kernel_rfl) (by kernel_rfl) ?_
                      repeat (gi_big_quiet_step (fail))
                      refine wpQuietIn_nil ?_
                      intro _ hw'
                      obtain ⟨nq, hw''⟩ := hw'
                      subst hw''
                      have cS' : ((W8.drewN nq).setCell ⟨Bn, 0, none⟩ (.int .i64 ((pre.length : Int) + 1))).cell? ⟨B9, 0, none⟩ = some (.int .i64 S) := (World.cell?_setCell_other _ _ _ _ (by simp; try omega)).trans cS
                      have cR' : ((W8.drewN nq).setCell ⟨Bn, 0, none⟩ (.int .i64 ((pre.length : Int) + 1))).cell? ⟨B11, 0, none⟩ = some (.int .i64 (r : Int)) := (World.cell?_setCell_other _ _ _ _ (by simp; try omega)).trans cR
                      have cN' : ((W8.drewN nq).setCell ⟨Bn, 0, none⟩ (.int .i64 ((pre.length : Int) + 1))).cell? ⟨Bn, 0, none⟩ = some (.int .i64 ((pre.length : Int) + 1)) := ((show Boxed (W8.drewN nq) Bn 3 (.int .i64 (pre.length : Int)) from b8).set _).cell
                      have HE : Hid (KeepsFrom W6.heap.size W' ((W8.drewN nq).setCell ⟨Bn, 0, none⟩ (.int .i64 ((pre.length : Int) + 1))) ∧ Below Bn W' ((W8.drewN nq).setCell ⟨Bn, 0, none⟩ (.int .i64 ((pre.length : Int) + 1))) ∧ Boxed ((W8.drewN nq).setCell ⟨Bn, 0, none⟩ (.int .i64 ((pre.length : Int) + 1))) Bn 3 (.int .i64 ((pre ++ [(⟨((xt, xr), xv), hxk, hxv⟩ : PX)]).length : Int)) ∧ Below Bn W6 ((W8.drewN nq).setCell ⟨Bn, 0, none⟩ (.int .i64 ((pre.length : Int) + 1)))) := by
                        have h1 := below_drew0 Bn W8 nq
                        have h2 : Below Bn W' ((W8.drewN nq).setCell ⟨Bn, 0, none⟩ (.int .i64 ((pre.length : Int) + 1))) := (HB8.out.2.trans h1).setCell (p := ⟨Bn, 0, none⟩) (Nat.le_refl _) _
                        refine ⟨(((keeps_below HB8.out.1).trans (keeps_drewN W8 nq)).trans (KeepsOthers.setCell _ _ _)).from _, h2, ?_, hB1.trans h2⟩
                        have h3 := (show Boxed (W8.drewN nq) Bn 3 (.int .i64 (pre.length : Int)) from b8).set (.int .i64 ((pre.length : Int) + 1))
                        rw [List.length_append, List.length_singleton]
                        push_cast
                        exact h3
                      gi_wp2_with fail
                      exact ⟨HE.out.1, HE.out.2.1, ⟨HC.out, HE.out.2.2.1⟩, HE.out.2.2.2⟩
                  · have hs' : ((pre.length : Int) + 1 == S) = false := by simp; exact hs
                    clear hs
                    gi_wp2_with fail
                    refine region_round (F := Fence.wide) (l := l) rfl (by kernel_rfl) (by kernel_rfl) (by kernel_rfl) ?_
                    repeat (gi_big_quiet_step (fail))
                    refine wpQuietIn_nil ?_
                    intro _ hw'
                    obtain ⟨nq, hw''⟩ := hw'
                    subst hw''
                    have cS' : ((W8.drewN nq).setCell ⟨Bn, 0, none⟩ (.int .i64 ((pre.length : Int) + 1))).cell? ⟨B9, 0, none⟩ = some (.int .i64 S) := (World.cell?_setCell_other _ _ _ _ (by simp; try omega)).trans cS
                    have cR' : ((W8.drewN nq).setCell ⟨Bn, 0, none⟩ (.int .i64 ((pre.length : Int) + 1))).cell? ⟨B11, 0, none⟩ = some (.int .i64 (r : Int)) := (World.cell?_setCell_other _ _ _ _ (by simp; try omega)).trans cR
                    have cN' : ((W8.drewN nq).setCell ⟨Bn, 0, none⟩ (.int .i64 ((pre.length : Int) + 1))).cell? ⟨Bn, 0, none⟩ = some (.int .i64 ((pre.length : Int) + 1)) := ((show Boxed (W8.drewN nq) Bn 3 (.int .i64 (pre.length : Int)) from b8).set _).cell
                    have HE : Hid (KeepsFrom W6.heap.size W' ((W8.drewN nq).setCell ⟨Bn, 0, none⟩ (.int .i64 ((pre.length : Int) + 1))) ∧ Below Bn W' ((W8.drewN nq).setCell ⟨Bn, 0, none⟩ (.int .i64 ((pre.length : Int) + 1))) ∧ Boxed ((W8.drewN nq).setCell ⟨Bn, 0, none⟩ (.int .i64 ((pre.length : Int) + 1))) Bn 3 (.int .i64 ((pre ++ [(⟨((xt, xr), xv), hxk, hxv⟩ : PX)]).length : Int)) ∧ Below Bn W6 ((W8.drewN nq).setCell ⟨Bn, 0, none⟩ (.int .i64 ((pre.length : Int) + 1)))) := by
                      have h1 := below_drew0 Bn W8 nq
                      have h2 : Below Bn W' ((W8.drewN nq).setCell ⟨Bn, 0, none⟩ (.int .i64 ((pre.length : Int) + 1))) := (HB8.out.2.trans h1).setCell (p := ⟨Bn, 0, none⟩) (Nat.le_refl _) _
                      refine ⟨(((keeps_below HB8.out.1).trans (keeps_drewN W8 nq)).trans (KeepsOthers.setCell _ _ _)).from _, h2, ?_, hB1.trans h2⟩
                      have h3 := (show Boxed (W8.drewN nq) Bn 3 (.int .i64 (pre.length : Int)) from b8).set (.int .i64 ((pre.length : Int) + 1))
                      rw [List.length_append, List.length_singleton]
                      push_cast
                      exact h3
                    gi_wp2_with fail
                    exact ⟨HE.out.1, HE.out.2.1, ⟨HC.out, HE.out.2.2.1⟩, HE.out.2.2.2⟩
                · have HC : Hid (¬ Chn es HES.out (pre ++ [(⟨((xt, xr), xv), hxk, hxv⟩ : PX)])) := fun h => hv (by have := HC0.out.1 h; simp at this; exact this.2)
                  have hv' : (es[pre.length].v != xv) = true := by simp; exact fun e => hv e.symm
                  generalize es[pre.length].v = xv' at *
                  clear hz hv hfd HFd HC0
                  gi_wp2_with fail
                  refine region_round (F := Fence.wide) (l := l) rfl (by kernel_rfl) (by kernel_rfl) (by kernel_rfl) ?_
                  repeat (gi_big_quiet_step (fail))
                  refine wpQuietIn_nil ?_
                  intro _ hw'
                  obtain ⟨nq, hw''⟩ := hw'
                  subst hw''
                  gi_wp2_with fail
                  exact ⟨(((keeps_below HB8.out.1).trans (keeps_drewN W8 nq)).trans (KeepsOthers.setCell _ _ _)).from _, .inl ⟨rfl, HC.out⟩⟩
              · have HC : Hid (¬ Chn es HES.out (pre ++ [(⟨((xt, xr), xv), hxk, hxv⟩ : PX)])) := fun h => hz (by have := HC0.out.1 h; simp at this; rw [← this.1])
                generalize es[pre.length].k = z at *
                obtain ⟨z1, z2⟩ := z
                simp only at y1 y2
                have hq := run_neKey xt xr z1 z2
                rw [decide_eq_false hz, Bool.not_false] at hq
                have hgd := fun op x y => run_eqGuard op x y xt xr z1 z2
                clear hz HFd HC0
                gi_wp2_with fail
                refine region_round (F := Fence.wide) (l := l) rfl (by kernel_rfl) (by kernel_rfl) (by kernel_rfl) ?_
                repeat (gi_big_quiet_step (fail))
                refine wpQuietIn_nil ?_
                intro _ hw'
                obtain ⟨nq, hw''⟩ := hw'
                subst hw''
                gi_wp2_with fail
                exact ⟨(((keeps_below HB8.out.1).trans (keeps_drewN W8 nq)).trans (KeepsOthers.setCell _ _ _)).from _, .inl ⟨rfl, HC.out⟩⟩
            case done =>
              rintro D' ys W' hD rfl ⟨⟨hp, b1⟩, hB1⟩ hK
              rw [upto_length] at b1
              exact ⟨.inl rfl, D', hD, rfl, ⟨es.length, Nat.le_refl _, .inl rfl, b1, hB1⟩, hK⟩
            case stop =>
              rintro D' c pre W' hD ⟨j, hj, rfl⟩ hIx hK
              rcases hIx with ⟨_, hn⟩ | ⟨rfl, _, hs, b1, hB1⟩
              · exact absurd (chn_upto es HES.out j) hn
              · rw [upto_length] at hs b1
                obtain ⟨hs1, hs2⟩ := hs
                gi_wp2
                exact ⟨D', hD, rfl, ⟨j, hj, .inr hs1, b1⟩, hK⟩
          case rest =>
            rintro D1 W7 hD1 ⟨j, hj, hjs, b7, hB7⟩ hK7
            have HS7 := HSn.out W7 hB7
            have cN := b7.cell
            have cL : W7.cell? ⟨B8, 0, none⟩ = some (.slice (some ⟨g, 0, none⟩) es.length es.length) := blk_cell HS7.1.x8 rfl
            have cS : W7.cell? ⟨B9, 0, none⟩ = some (.int .i64 S) := blk_cell HS7.1.x9 rfl
            have cR : W7.cell? ⟨B11, 0, none⟩ = some (.int .i64 (r : Int)) := blk_cell HS7.2.1 rfl
            have HOL : Hid (∀ tm : Array Value, tm.size = 120 → tm.getD 0 undef = .slice ao k cap → tm.getD 4 undef = ptr w.heap.size → tm.getD 5 undef = ptr B5 → tm.getD 8 undef = ptr B8 → tm.getD 9 undef = ptr B9 → tm.getD 10 undef = .func (.func fEach) #[] #[ptr B] → tm.getD 11 undef = ptr W7.heap.size → OL w5 ao k cap w.heap.size B5 B8 B9 B W7.heap.size (r + 1) (D1 :: Ds) { tmps := tm, defers := mk D1 :: Ds.map mk } (W7.alloc (.cells #[.int .i64 ((r : Int) + 1)] 3)) ∧ mu { tmps := tm, defers := mk D1 :: Ds.map mk } (W7.alloc (.cells #[.int .i64 ((r : Int) + 1)] 3)) < 3 - r) := by
              intro tm s1 s2 s3 s4 s5 s6 s7 s8
              have hs6 := HS6.out
              have h7 := HS7.2.2
              have hsz := h7.size
              refine ⟨⟨by omega, by simp [HO.out.dl], by simp, s1, s2, s3, s4, s5, s6, s7, s8, h7.alloc hsz _, ?_, hsz, fun d hd => ?_, ?_⟩, ?_⟩
              · rw [heap_alloc_new _ _ rfl]; push_cast; rfl
              · rcases List.mem_cons.1 hd with rfl | hd
                · exact ⟨by omega, (heap_alloc_old _ _ (blk_lt hK7)).trans hK7⟩
                · obtain ⟨d1, d2⟩ := hs6.2.2.2.2 d hd
                  have d3 : W7.heap[d]? = some (.deferred (some [])) := (hB7.block d d1).trans d2
                  exact ⟨(HO.out.ds d hd).1, (heap_alloc_old _ _ (blk_lt d3)).trans d3⟩
              · refine List.Pairwise.cons (fun d hd => ?_) HO.out.dp
                have := (hs6.2.2.2.2 d hd).1
                omega
              · unfold mu
                rw [s8]
                show 3 - (intOf (((W7.alloc (.cells #[.int .i64 ((r : Int) + 1)] 3)).cell? ⟨W7.heap.size, 0, none⟩).getD undef)).toNat < 3 - r
                rw [World.cell?, heap_alloc_new _ _ rfl]
                simp [intOf]
                omega
            clear HS7 b7 hB7 hK7
            rcases hjs with rfl | ⟨hjs, hr2⟩
            · go_wp2_with fail
              exact ⟨⟨_, _, _, (HOL.out _ rfl rfl rfl rfl rfl rfl rfl rfl).1⟩, (HOL.out _ rfl rfl rfl rfl rfl rfl rfl rfl).2⟩
            · by_cases hje : j = es.length
              · subst hje
                go_wp2_with fail
                exact ⟨⟨_, _, _, (HOL.out _ rfl rfl rfl rfl rfl rfl rfl rfl).1⟩, (HOL.out _ rfl rfl rfl rfl rfl rfl rfl rfl).2⟩
              · have hjb : ((j : Int) == (es.length : Int)) = false := by simp; omega
                have hjb2 : ((j : Int) != (es.length : Int)) = true := by simp; omega
                have hjb3 : (j != es.length) = true := by simp; omega
                have hjb4 : (j == es.length) = false := by simp; omega
                have hr2b : ((r : Int) == 2) = false := by simp; omega
                have hr2c : (r == 2) = false := by simp; omega
                have hjn : ¬ (j : Int) = (es.length : Int) := by omega
                have hr2i : ¬ (r : Int) = 2 := by omega
                subst hjs
                go_wp2_with fail
                exact ⟨⟨_, _, _, (HOL.out _ rfl rfl rfl rfl rfl rfl rfl rfl).1⟩, (HOL.out _ rfl rfl rfl rfl rfl rfl rfl rfl).2⟩
        · obtain rfl : r = 3 := by omega
          have hO := HO.out
          have HB : Hid (Below w5.heap.size w5 W) := hO.bel
          obtain ⟨d3, d2, d1, rfl⟩ : ∃ d3 d2 d1, Ds = [d3, d2, d1] := by
            have := hO.dl
            match Ds, this with
            | [a, b, c], _ => exact ⟨a, b, c, rfl⟩
          have HDs : Hid ((w5.heap.size ≤ d3 ∧ W.heap[d3]? = some (.deferred (some []))) ∧ (w5.heap.size ≤ d2 ∧ W.heap[d2]? = some (.deferred (some []))) ∧ (w5.heap.size ≤ d1 ∧ W.heap[d1]? = some (.deferred (some []))) ∧ d3 > d2 ∧ d3 > d1 ∧ d2 > d1) := by
            have h1 := hO.ds
            have h2 := hO.dp
            simp at h1 h2
            exact ⟨h1.1, h1.2.1, h1.2.2, h2.1.1, h2.1.2, h2.2⟩
          have HSW : Hid (S5 w W D M Ld es k B5 B8 B9 B g ge S) := HS5.out.kept HB.out
          have c5 : W.cell? ⟨B5, 0, none⟩ = some (ptr D) := blk_cell HSW.out.x5 rfl
          have c8 : W.cell? ⟨B8, 0, none⟩ = some (.slice (some ⟨g, 0, none⟩) es.length es.length) := blk_cell HSW.out.x8 rfl
          have c0 : W.cell? ⟨w.heap.size, 0, none⟩ = some (.bool false) := blk_cell HSW.out.ps.b0 rfl
          have f0 := frozen_of_row W w.heap.size 0 _ _ HSW.out.ps.b0
          have HLen : Hid (∀ n : Nat, Calls Try.prog 25 #[ptr D] (W.drewN n) fun e w' => e = .returned (.int .i64 (es.length : Int)) ∧ w' = W.drewN n) := fun n => len_any (W.drewN n) D M Ld 1 _ es (HSW.out.ps.da.same (fun _ _ => rfl))
          have n58 : B5 ≠ w.heap.size ∧ B8 ≠ w.heap.size := ⟨fun e => by (have := HSW.out.x5; rw [e, HSW.out.ps.b0] at this; cases this), fun e => by (have := HSW.out.x8; rw [e, HSW.out.ps.b0] at this; cases this)⟩
          have hpos : (0 < k) ↔ (0 < es.length) := by have := HSW.out.ps.len; omega
          clear hO HO
          have HV : Hid (∀ v, (W.setCell ⟨w.heap.size, 0, none⟩ v).cell? ⟨B5, 0, none⟩ = some (ptr D) ∧ (W.setCell ⟨w.heap.size, 0, none⟩ v).cell? ⟨B8, 0, none⟩ = some (.slice (some ⟨g, 0, none⟩) es.length es.length)) := fun v => ⟨blk_cell (blk_oth v HSW.out.x5 n58.1) rfl, blk_cell (blk_oth v HSW.out.x8 n58.2) rfl⟩
          have H9 : Hid (((W.drewN 1).setCell ⟨w.heap.size, 0, none⟩ (.bool true)).heap[d3]? = some (.deferred (some [])) ∧ ((W.drewN 1).setCell ⟨w.heap.size, 0, none⟩ (.bool true)).heap[d2]? = some (.deferred (some [])) ∧ ((W.drewN 1).setCell ⟨w.heap.size, 0, none⟩ (.bool true)).heap[d1]? = some (.deferred (some [])) ∧ ((W.drewN 1).setCell ⟨w.heap.size, 0, none⟩ (.bool true)).cell? ⟨w.heap.size, 0, none⟩ = some (.bool true) ∧ Below w.heap.size w ((W.drewN 1).setCell ⟨w.heap.size, 0, none⟩ (.bool true)) ∧ w.heap.size ≤ d3 ∧ w.heap.size ≤ d2 ∧ w.heap.size ≤ d1) := by
            obtain ⟨⟨q3, h3⟩, ⟨q2, h2⟩, ⟨q1, h1⟩, _⟩ := HDs.out
            have hx := blk_lt HS5.out.ps.b0
            have hb := HSW.out.ps.bel
            refine ⟨blk_oth (w := W.drewN 1) _ h3 (by omega), blk_oth (w := W.drewN 1) _ h2 (by omega), blk_oth (w := W.drewN 1) _ h1 (by omega), blk_cell (blk_set (w := W.drewN 1) _ HSW.out.ps.b0) rfl, ?_, by omega, by omega, by omega⟩
            have h0 : Below w.heap.size w (W.drewN 1) := ⟨hb.os, hb.tape, hb.output, hb.size, hb.block⟩
            exact h0.setCell (p := ⟨w.heap.size, 0, none⟩) (Nat.le_refl _) _
          have hds := HDs.out.2.2.2
          have hn5 : ¬ B5 = w.heap.size := n58.1
          have hn8 : ¬ B8 = w.heap.size := n58.2
          by_cases hk0 : 0 < k
          · have hm0 := hpos.1 hk0
            go_wp2_with fail
            go_region_held3 (fun w' => w'.cell? ⟨B5, 0, none⟩ = some (ptr D) ∧ w'.cell? ⟨B8, 0, none⟩ = some (.slice (some ⟨g, 0, none⟩) es.length es.length)) (first | exact ⟨c5, c8⟩ | exact HV.out _ | go_keep) (first | (go_at_call 25; refine (HLen.out 1).mono ?_; rintro e wq ⟨rfl, rfl⟩))
            go_wp2
            generalize (W.drewN 1).setCell ⟨w.heap.size, 0, none⟩ (.bool true) = W9 at *
            obtain ⟨h3, h2, h1, r9, hb9, hw3, hw2, hw1⟩ := H9.out
            have g2 : (W9.putObj d3 (.deferred none)).heap[d2]? = some (.deferred (some [])) := ((grownBy_putObj' W9 d3 _).block d2 (Array.getElem?_eq_some_iff.1 h2).1 (by simp; omega)).trans h2
            have g1 : (W9.putObj d3 (.deferred none)).heap[d1]? = some (.deferred (some [])) := ((grownBy_putObj' W9 d3 _).block d1 (Array.getElem?_eq_some_iff.1 h1).1 (by simp; omega)).trans h1
            have k1 : ((W9.putObj d3 (.deferred none)).putObj d2 (.deferred none)).heap[d1]? = some (.deferred (some [])) := ((grownBy_putObj' _ d2 _).block d1 (Array.getElem?_eq_some_iff.1 g1).1 (by simp; omega)).trans g1
            have r10 := cell_kept r9 (grownBy_putObj' W9 d3 (.deferred none)) (fun r e => by cases e; exact ⟨_, h3, rfl⟩)
            have r11 := cell_kept r10 (grownBy_putObj' _ d2 (.deferred none)) (fun r e => by cases e; exact ⟨_, g2, rfl⟩)
            have r12 := cell_kept r11 (grownBy_putObj' _ d1 (.deferred none)) (fun r e => by cases e; exact ⟨_, k1, rfl⟩)
            have b10 := hb9.trans (belowK_b (w := w) (Nat.le_refl _) W9 d3 _ (.deferred none) hw3 h3 rfl rfl)
            have b11 := b10.trans (belowK_b (w := w) (Nat.le_refl _) _ d2 _ (.deferred none) hw2 g2 rfl rfl)
            have b12 := b11.trans (belowK_b (w := w) (Nat.le_refl _) _ d1 _ (.deferred none) hw1 k1 rfl rfl)
            refine ⟨by simp, .inl ⟨d3, _, rfl, run_takeDeferred h3, ⟨by simp, .inl ⟨d2, _, rfl, run_takeDeferred g2, ⟨by simp, .inl ⟨d1, _, rfl, run_takeDeferred k1, ?_⟩⟩⟩⟩⟩⟩
            refine ⟨.bool true, ?_, rfl, b12⟩
            simp [results, Try.f6, go_sem, r12]
          · have hm0 : ¬ 0 < es.length := fun h => hk0 (hpos.2 h)
            go_wp2_with fail
            go_region_held3 (fun w' => w'.cell? ⟨B5, 0, none⟩ = some (ptr D) ∧ w'.cell? ⟨B8, 0, none⟩ = some (.slice (some ⟨g, 0, none⟩) es.length es.length)) (first | exact ⟨c5, c8⟩ | exact HV.out _ | go_keep) (first | (go_at_call 25; refine (HLen.out 1).mono ?_; rintro e wq ⟨rfl, rfl⟩))
            go_wp2
            generalize (W.drewN 1).setCell ⟨w.heap.size, 0, none⟩ (.bool true) = W9 at *
            obtain ⟨h3, h2, h1, r9, hb9, hw3, hw2, hw1⟩ := H9.out
            have g2 : (W9.putObj d3 (.deferred none)).heap[d2]? = some (.deferred (some [])) := ((grownBy_putObj' W9 d3 _).block d2 (Array.getElem?_eq_some_iff.1 h2).1 (by simp; omega)).trans h2
            have g1 : (W9.putObj d3 (.deferred none)).heap[d1]? = some (.deferred (some [])) := ((grownBy_putObj' W9 d3 _).block d1 (Array.getElem?_eq_some_iff.1 h1).1 (by simp; omega)).trans h1
            have k1 : ((W9.putObj d3 (.deferred none)).putObj d2 (.deferred none)).heap[d1]? = some (.deferred (some [])) := ((grownBy_putObj' _ d2 _).block d1 (Array.getElem?_eq_some_iff.1 g1).1 (by simp; omega)).trans g1
            have r10 := cell_kept r9 (grownBy_putObj' W9 d3 (.deferred none)) (fun r e => by cases e; exact ⟨_, h3, rfl⟩)
            have r11 := cell_kept r10 (grownBy_putObj' _ d2 (.deferred none)) (fun r e => by cases e; exact ⟨_, g2, rfl⟩)
            have r12 := cell_kept r11 (grownBy_putObj' _ d1 (.deferred none)) (fun r e => by cases e; exact ⟨_, k1, rfl⟩)
            have b10 := hb9.trans (belowK_b (w := w) (Nat.le_refl _) W9 d3 _ (.deferred none) hw3 h3 rfl rfl)
            have b11 := b10.trans (belowK_b (w := w) (Nat.le_refl _) _ d2 _ (.deferred none) hw2 g2 rfl rfl)
            have b12 := b11.trans (belowK_b (w := w) (Nat.le_refl _) _ d1 _ (.deferred none) hw1 k1 rfl rfl)
            refine ⟨by simp, .inl ⟨d3, _, rfl, run_takeDeferred h3, ⟨by simp, .inl ⟨d2, _, rfl, run_takeDeferred g2, ⟨by simp, .inl ⟨d1, _, rfl, run_takeDeferred k1, ?_⟩⟩⟩⟩⟩⟩
            refine ⟨.bool true, ?_, rfl, b12⟩
            simp [results, Try.f6, go_sem, r12]
end Go.Proofs.Ytdjadodnofbebaa
