/-
  New, Newest, Fill.
-/
import Derived.Test.YtfkijdlggdgfhaaSRemV
import Derived.Test.YtfkijdlggdgfhaaCHash
namespace Go.Proofs.Ytfkijdlggdgfhaa
open Go.RowKit Go.Sort

/-- a store without versions -/
theorem SA.new {w W : World} {S V D M L P : Nat} {hf : Value} {cap : Int} (hd : DA w D M L hf P []) (hb : Below w.heap.size w W) (hc : 1 ≤ cap ∧ cap ≤ 65536)
    (st : W.heap[S]? = some (.cells #[.int .i64 (P : Int), .int .i64 cap, .int .i64 0, .map (some V), ptr D] 70 (0, 0))) (vm : W.heap[V]? = some (.map #[] 0)) (hV : w.heap.size ≤ V) : SA W S V D M L P hf cap 0 [] [] (fun _ => (0, 0, 0)) := by
  refine ⟨st, ⟨#[], 0, vm, rfl⟩, by simp, hd.kept hb, by simp, by simp, by simp, by simp, by simp, by simp, by simp, by simp, by simp, by simp, by simp [ofK], by simp, fun e => ?_, by simp; omega, by simp, by simp, by simp, by simp⟩
  have := hd.lt (k := M) (.inr (.inl rfl))
  omega
/-- what New leaves -/
def NewPost (w : World) (n : Nat) (cap : Int) (e : Ending) (w' : World) : Prop :=
  ∃ S V D M L, e = .returned (.tuple #[ptr S, .int .i64 0]) ∧ SA w' S V D M L n (hfn 35) cap 0 [] [] (fun _ => (0, 0, 0)) ∧ (∀ k, Fs S V D M L [] [] (fun _ => (0, 0, 0)) k → w.heap.size ≤ k) ∧ Below w.heap.size w w'
set_option maxRecDepth 100000 in
set_option maxHeartbeats 1000000 in
theorem new_any (w : World) (n : Nat) (cap : Int) (h1 : 1 ≤ n) (h2 : n ≤ 256) (hc : 1 ≤ cap ∧ cap ≤ 65536) :
    Calls Try.prog 18 #[.int .i64 (n : Int), .int .i64 cap] w fun e w' => NewPost w n cap e w' := by
  have HN := new_fn w 35 n h1 h2
  have hmk : ∀ w : World, (Instr.makeMap 67 none).run Try.prog w = .ok (.map (some w.heap.size)) (w.alloc (.map #[] 0)) := fun w => by
    simp [Instr.makeMap, Result.andThen]
  have hc1 : ¬ cap < 1 := by omega
  have hc2 : ¬ 65536 < cap := by omega
  have hc1b : decide (cap < 1) = false := by simpa using hc1
  have hc2b : decide (65536 < cap) = false := by simpa using hc2
  have HC : Hid (1 ≤ cap ∧ cap ≤ 65536) := hc
  clear hc h1 h2
  go_enter Try.func18, Try.ntmps18
  go_wp2_with fail
  refine HN.mono ?_
  clear HN
  rintro e w1 ⟨D, M, L, rfl, hd, hge, hb1⟩
  have HD : Hid (DA w1 D M L (hfn 35) n [] ∧ (w.heap.size ≤ D ∧ w.heap.size ≤ M ∧ w.heap.size ≤ L) ∧ Below w.heap.size w w1) := ⟨hd, hge, hb1⟩
  clear hd hge hb1
  go_wp2
  go_ret2
  have hb2 : Below w1.heap.size w1 ((w1.alloc (.map #[] 0)).alloc (.cells #[.int .i64 (n : Int), .int .i64 cap, .int .i64 0, .map (some w1.heap.size), ptr D] 70)) := ((Below.refl _ _).alloc (Nat.le_refl _) _).alloc (by simp) _
  have hz := HD.out.2.2.size
  refine ⟨w1.heap.size + 1, w1.heap.size, D, M, L, rfl, SA.new HD.out.1 hb2 HC.out (heap_alloc_new _ _ (by simp)) ((heap_alloc_old _ _ (by simp)).trans (heap_alloc_new _ _ rfl)) (Nat.le_refl _), fun k hk => ?_, HD.out.2.2.trans (hb2.mono hz)⟩
  have hge := HD.out.2.1
  rcases hk with rfl | rfl | ⟨_, h, _⟩ | hk | ⟨_, h, _⟩ | ⟨_, h, _⟩
  · omega
  · omega
  · cases h
  · rcases hk with rfl | rfl | rfl | ⟨_, h, _⟩
    · exact hge.1
    · exact hge.2.1
    · exact hge.2.2
    · cases h
  · cases h
  · cases h
/-- the newest one's number -/
def newestN (k : K) (vs : List Vr) : Int := match (ofK k vs).getLast? with | none => 0 | some v => v.n
set_option maxRecDepth 100000 in
set_option maxHeartbeats 1000000 in
theorem newestS_any (w : World) (S V D M L P : Nat) (hf : Value) (cap last : Int) (vs : List Vr) (es : List En) (R : K → Nat × Nat × Nat) (k1 k2 : Int) (h : SA w S V D M L P hf cap last vs es R) (hk : KIn (k1, k2)) :
    Calls Try.prog 15 #[ptr S, .agg #[.int .i64 k1, .int .i64 k2]] w fun e w' => e = .returned (.int .i64 (newestN (k1, k2) vs)) ∧ Below w.heap.size w w' := by
  obtain ⟨W, hW⟩ : ∃ W, W = w.alloc (.cells #[.int .i64 k1, .int .i64 k2] 28) := ⟨_, rfl⟩
  have HB : Hid (Below w.heap.size w W) := by
    show Below _ _ _
    rw [hW]
    exact (Below.refl _ _).alloc (Nat.le_refl _) _
  have hx : W.heap[w.heap.size]? = some (.cells #[.int .i64 k1, .int .i64 k2] 28 (0, 0)) := by rw [hW]; exact heap_alloc_new _ _ rfl
  have HS : Hid (SA W S V D M L P hf cap last vs es R) := h.kept HB.out
  have HKn : Hid (∀ U, Below W.heap.size W U → U.cell? ⟨S, 4, none⟩ = some (ptr D) ∧ U.cell? ⟨w.heap.size, 0, none⟩ = some (.int .i64 k1) ∧ U.cell? ⟨w.heap.size, 1, none⟩ = some (.int .i64 k2)) := fun U hU => by
    have q := (hU.block _ (blk_lt hx)).trans hx
    refine ⟨(HS.out.kept hU).cells.2.2.2.2, ?_, ?_⟩ <;> simp [World.cell?, q]
  have HG : Hid (Calls Try.prog 28 #[ptr D, .agg #[.int .i64 k1, .int .i64 k2]] W.drew fun e w' => e = .returned (.tuple #[vv (fd es (k1, k2)), .bool (fd es (k1, k2)).isSome]) ∧ Below W.heap.size W w') := by
    have hd : Below W.heap.size W W.drew := ⟨rfl, rfl, rfl, Nat.le_refl _, fun _ _ => rfl⟩
    exact (get_any W.drew D M L P hf es (k1, k2) (HS.out.da.kept hd) hk).mono fun e w' ⟨h1, h2⟩ => ⟨h1, hd.trans h2⟩
  obtain ⟨c4, b0, b1⟩ := HKn.out W (Below.refl _ _)
  clear h hx
  go_enter Try.func15, Try.ntmps15
  go_wp2_with fail
  rw [← hW]
  clear hW
  go_region_held3 (fun w' => w'.cell? ⟨S, 4, none⟩ = some (ptr D) ∧ w'.cell? ⟨w.heap.size, 0, none⟩ = some (.int .i64 k1) ∧ w'.cell? ⟨w.heap.size, 1, none⟩ = some (.int .i64 k2)) (first | exact HKn.out _ HB3.out | go_keep) (first | (go_at_call 28; refine HG.out.mono ?_; rintro e w3 ⟨rfl, hb3⟩; have HB3 : Hid (Below W.heap.size W w3) := hb3; clear hb3))
  clear c4 b0 b1 HG HKn
  have HBw : Hid (Below w.heap.size w w3) := HB.out.trans (HB3.out.mono HB.out.size)
  cases hfd : fd es (k1, k2) with
  | none =>
    have hof := HS.out.none_of hfd
    have HE : Hid (newestN (k1, k2) vs = 0) := by show _ = _; unfold newestN; rw [hof]; rfl
    simp only [vv, Option.isSome]
    clear hfd hof
    go_wp2
    go_ret
    exact ⟨by rw [HE.out]; rfl, HBw.out⟩
  | some e0 =>
    obtain ⟨he0, hk0⟩ := fd_some hfd
    obtain ⟨ys, y, hys⟩ := snoc_of (HS.out.ne e0 he0)
    have hl := (HS.out.kept HB3.out).line he0
    rw [hk0] at hys hl
    rw [hys] at hl
    have HL : Hid (Line w3 e0.v (R (k1, k2)).1 (R (k1, k2)).2.1 (R (k1, k2)).2.2 (ys ++ [y])) := hl
    have HE : Hid (newestN (k1, k2) vs = y.n) := by show _ = _; unfold newestN; rw [hys]; simp
    have HNw := newest_any w3 e0.v (R (k1, k2)).1 (R (k1, k2)).2.1 (R (k1, k2)).2.2 (ys.map Vr.b) y.b (by have := hl.ch; simpa using this) (by have := hl.rw; simpa using this) (by have := hl.sz; simp at this ⊢; omega)
    simp only [vv, Option.isSome]
    clear hfd he0 hk0 hys hl
    go_wp2_with fail
    refine HNw.mono ?_
    clear HNw
    rintro e w4 ⟨rfl, q, rfl⟩
    have c2 : (w3.drewN q).cell? ⟨y.b, 2, none⟩ = some (.int .i64 y.n) := by
      have : (w3.drewN q).heap[y.b]? = _ := HL.out.vb y (by simp)
      rw [World.cell?, this]; rfl
    have HB4 : Hid (Below w.heap.size w (w3.drewN q)) := ⟨HBw.out.os, HBw.out.tape, HBw.out.output, HBw.out.size, HBw.out.block⟩
    clear HL HB3 HS
    go_wp2
    go_ret
    exact ⟨by rw [HE.out]; rfl, HB4.out⟩
end Go.Proofs.Ytfkijdlggdgfhaa
