/-
  A Dict's MAP; find, Get, line, Len, Part.
-/
import Derived.Test.YtenmkigoohpfmaaDKey
namespace Go.Proofs.Ytenmkigoohpfmaa
open Go.RowKit Go.Sort

/-- what is found -/
def fd (es : List En) (k : K) : Option En := es.find? (fun e => decide (e.k = k))
def fp : Option En → Value
  | none => .pointer none
  | some e => ptr e.b
theorem fd_none {es : List En} {k : K} (h : fd es k = none) : ∀ e ∈ es, e.k ≠ k := by
  intro e he
  have := List.find?_eq_none.1 h e he
  simpa using this
theorem fd_some {es : List En} {k : K} {e : En} (h : fd es k = some e) : e ∈ es ∧ e.k = k := ⟨List.mem_of_find?_eq_some h, by have := List.find?_some h; simpa using this⟩
theorem nodup_split {α β : Type} {f : α → β} {A C : List α} {e : α} (h : ((A ++ e :: C).map f).Nodup) : (∀ x ∈ A, f x ≠ f e) ∧ (∀ x ∈ C, f x ≠ f e) := by
  rw [List.map_append, List.map_cons, List.nodup_append] at h
  obtain ⟨_, h2, h3⟩ := h
  rw [List.nodup_cons] at h2
  refine ⟨fun x hx e' => h3 (f x) (List.mem_map.2 ⟨x, hx, rfl⟩) (f e) (by simp) e', fun x hx e' => h2.1 (List.mem_map.2 ⟨x, hx, e'⟩)⟩
theorem fd_of {es : List En} {e : En} (hk : (es.map En.k).Nodup) (he : e ∈ es) : fd es e.k = some e := by
  obtain ⟨A, C, rfl⟩ := List.append_of_mem he
  have h := (nodup_split hk).1
  unfold fd
  rw [List.find?_append, List.find?_eq_none.2 (fun x hx => by simpa using h x hx)]
  simp
theorem kv_inj {a b : K} (h : kv a = kv b) : a = b := by
  obtain ⟨a1, a2⟩ := a
  obtain ⟨b1, b2⟩ := b
  simp only [kv, Value.agg.injEq] at h
  have := congrArg Array.toList h
  simp only [List.cons.injEq, Value.int.injEq, true_and, and_true] at this
  rw [this.1, this.2]
section
variable {w : World} {M : Nat} {es : List En} {ms : Array MapEntry} {clock : Nat}
theorem map_find (hp : ∀ e ∈ es, KIn e.k) (hms : ms.toList.map (fun x => (x.key, x.val)) = es.map (fun e => (kv e.k, ptr e.b))) (hk : (es.map En.k).Nodup) {k : K} (hkk : KIn k) (w : World) :
    (fd es k = none ∧ (Instr.findKey 28 (kv k) ms.toList).run Try.prog w = .ok none w) ∨ (∃ j A e C, es = A ++ e :: C ∧ A.length = j ∧ e.k = k ∧ fd es k = some e ∧ (Instr.findKey 28 (kv k) ms.toList).run Try.prog w = .ok (some (j, ptr e.b)) w) := by
  obtain ⟨l, hl⟩ := key_lit hkk
  have hall : ∀ x ∈ ms.toList, ∃ l, keyOf Try.prog 28 x.key = some l := fun x hx => by
    have h1 : (x.key, x.val) ∈ es.map (fun e => (kv e.k, ptr e.b)) := by rw [← hms]; exact List.mem_map.2 ⟨x, hx, rfl⟩
    obtain ⟨e, he, h2⟩ := List.mem_map.1 h1
    obtain ⟨l, h3⟩ := key_lit (hp e he)
    exact ⟨l, by rw [← (Prod.mk.inj h2).1]; exact h3⟩
  rcases keyed.find w hl ms.toList hall with ⟨h1, h2⟩ | ⟨j, x, h1, h2, h3⟩
  · refine .inl ⟨?_, h1⟩
    refine List.find?_eq_none.2 fun e he => ?_
    have h4 : (kv e.k, ptr e.b) ∈ ms.toList.map (fun x => (x.key, x.val)) := by rw [hms]; exact List.mem_map.2 ⟨e, he, rfl⟩
    obtain ⟨x, hx, h5⟩ := List.mem_map.1 h4
    have h6 := h2 x hx
    simp only [decide_eq_true_eq]
    intro e'
    exact h6 (by rw [(Prod.mk.inj h5).1, e'])
  · have h4 : (ms.toList.map (fun x => (x.key, x.val)))[j]? = some (x.key, x.val) := by rw [List.getElem?_map, h2]; rfl
    rw [hms, List.getElem?_map] at h4
    obtain ⟨e, he, h5⟩ := Option.map_eq_some_iff.1 h4
    obtain ⟨h6, h7⟩ := Prod.mk.inj h5
    have hek : e.k = k := kv_inj (h6.trans h3)
    obtain ⟨hj, hje⟩ := List.getElem?_eq_some_iff.1 he
    refine .inr ⟨j, es.take j, e, es.drop (j + 1), ?_, by rw [List.length_take]; omega, hek, ?_, ?_⟩
    · rw [← hje, ← List.drop_eq_getElem_cons hj, List.take_append_drop]
    · rw [← hek]; exact fd_of hk (List.mem_of_getElem? he)
    · rw [h1, h7]
theorem run_zeroE (w : World) : (zeroValue 47).run Try.prog w = .ok (.pointer none) w := by kernel_rfl
theorem map_look (hb : w.heap[M]? = some (.map ms clock)) (hp : ∀ e ∈ es, KIn e.k) (hms : ms.toList.map (fun x => (x.key, x.val)) = es.map (fun e => (kv e.k, ptr e.b))) (hk : (es.map En.k).Nodup) {k : K} (hkk : KIn k) :
    (Instr.lookup 42 (.map (some M)) (kv k) false).run Try.prog w = .ok (fp (fd es k)) w := by
  obtain ⟨l, hl⟩ := key_lit hkk
  rcases map_find hp hms hk hkk w with ⟨h1, h2⟩ | ⟨j, A, e, C, _, _, _, h1, h2⟩
  · rw [h1]
    simp [Instr.lookup, run_underlying Try.underlying42, MapKept.run_getObj_map hb, keyed.check w _ hl, h2, Result.andThen, fp]
  · rw [h1]
    simp [Instr.lookup, run_underlying Try.underlying42, MapKept.run_getObj_map hb, keyed.check w _ hl, h2, Result.andThen, fp]
theorem map_put (hb : w.heap[M]? = some (.map ms clock)) (hp : ∀ e ∈ es, KIn e.k) (hms : ms.toList.map (fun x => (x.key, x.val)) = es.map (fun e => (kv e.k, ptr e.b))) (hk : (es.map En.k).Nodup) {k : K} (hkk : KIn k) (hn : fd es k = none) (b : Nat) :
    (Instr.mapUpdate 42 (.map (some M)) (kv k) (ptr b)).run Try.prog w = .ok () (ChangeMaps.setBlock w M (.map (ms.push ⟨kv k, ptr b, clock⟩) (clock + 1))) := by
  obtain ⟨l, hl⟩ := key_lit hkk
  rcases map_find hp hms hk hkk w with ⟨h1, h2⟩ | ⟨j, A, e, C, _, _, _, h1, h2⟩
  · simp [Instr.mapUpdate, run_underlying Try.underlying42, MapKept.run_getObj_map hb, keyed.check w false hl, h2, MapKept.run_setObj_map _ hb, Result.andThen, ChangeMaps.setBlock]
  · rw [hn] at h1; cases h1
theorem map_del (hb : w.heap[M]? = some (.map ms clock)) (hp : ∀ e ∈ es, KIn e.k) (hms : ms.toList.map (fun x => (x.key, x.val)) = es.map (fun e => (kv e.k, ptr e.b))) (hk : (es.map En.k).Nodup) {e : En} (he : e ∈ es) (ty : TypeId) :
    ∃ A C ms', es = A ++ e :: C ∧ (Builtin.delete_ #[42, 28] ty #[.map (some M), kv e.k]).run Try.prog w = .ok (.tuple #[]) (ChangeMaps.setBlock w M (.map ms' clock)) ∧ ms'.toList.map (fun x => (x.key, x.val)) = (A ++ C).map (fun e => (kv e.k, ptr e.b)) := by
  obtain ⟨l, hl⟩ := key_lit (hp e he)
  rcases map_find hp hms hk (hp e he) w with ⟨h1, h2⟩ | ⟨j, A, e', C, h0, hj, _, h1, h2⟩
  · rw [fd_of hk he] at h1; cases h1
  · rw [fd_of hk he] at h1
    cases h1
    have hsub : (ms.eraseIdxIfInBounds j).toList = ms.toList.eraseIdx j := by
      unfold Array.eraseIdxIfInBounds
      split
      · simp
      · rename_i hh
        rw [List.eraseIdx_of_length_le (by simpa using hh)]
    refine ⟨A, C, ms.eraseIdxIfInBounds j, h0, ?_, ?_⟩
    · simp [Builtin.delete_, run_underlying Try.underlying42, MapKept.run_getObj_map hb, keyed.check w _ hl, h2, MapKept.run_setObj_map _ hb, Result.andThen, ChangeMaps.setBlock]
    · rw [hsub, ChangeMaps.map_eraseIdx, hms, ← ChangeMaps.map_eraseIdx, h0, ← hj]
      simp [List.eraseIdx_append_of_length_le]
end

theorem DA.cells {w : World} {D M L P : Nat} {hf : Value} {es : List En} (h : DA w D M L hf P es) : w.cell? ⟨D, 0, none⟩ = some hf ∧ w.cell? ⟨D, 1, none⟩ = some (.map (some M)) ∧ w.cell? ⟨D, 2, none⟩ = some (.slice (some ⟨L, 0, none⟩) P P) := by
  refine ⟨?_, ?_, ?_⟩ <;> rw [World.cell?, h.dc] <;> rfl
theorem DA.look {w : World} {D M L P : Nat} {hf : Value} {es : List En} (h : DA w D M L hf P es) {k : K} (hk : KIn k) : (Instr.lookup 42 (.map (some M)) (kv k) false).run Try.prog w = .ok (fp (fd es k)) w := by
  obtain ⟨ms, c, h1, h2⟩ := h.mp
  exact map_look h1 (fun e he => (h.pp e he).2.1) h2 h.kn hk

theorem DA.lookN {w : World} {D M L P : Nat} {hf : Value} {es : List En} (h : DA w D M L hf P es) {k1 k2 : Int} (hk : KIn (k1, k2)) (n : Nat) : Sem.run Try.prog (Instr.lookup 42 (.map (some M)) (.agg #[.int .i64 k1, .int .i64 k2]) false) (w.drewN n) = Result.ok (fp (fd es (k1, k2))) (w.drewN n) :=
  DA.look (k := (k1, k2)) (h.same (w' := w.drewN n) (fun _ _ => rfl)) hk

set_option maxRecDepth 100000 in
set_option maxHeartbeats 1000000 in
theorem find_any (w : World) (D M L P : Nat) (hf : Value) (es : List En) (k : K) (h : DA w D M L hf P es) (hk : KIn k) :
    Calls Try.prog 14 #[ptr D, kv k] w fun e w' => e = .returned (fp (fd es k)) ∧ Below w.heap.size w w' := by
  have HD : Hid (DA w D M L hf P es ∧ KIn k) := ⟨h, hk⟩
  clear h hk
  obtain ⟨k1, k2⟩ := k
  go_enter Try.func14, Try.ntmps14
  go_wp2_with fail
  have HB1 : Hid (Below w.heap.size w (w.alloc (.cells #[.int .i64 k1, .int .i64 k2] 28))) := (Below.refl _ _).alloc (Nat.le_refl _) _
  have HX1 : Hid ((w.alloc (.cells #[.int .i64 k1, .int .i64 k2] 28)).heap[w.heap.size]? = some (.cells #[.int .i64 k1, .int .i64 k2] 28 (0, 0))) := heap_alloc_new _ _ rfl
  generalize w.alloc (.cells #[.int .i64 k1, .int .i64 k2] 28) = W1 at *
  refine (isKey_any W1 (k1, k2)).mono ?_
  rintro e w2 ⟨rfl, hb2⟩
  have HB2 : Hid (Below w.heap.size w w2) := HB1.out.trans (hb2.mono HB1.out.size)
  have HX2 : Hid (w2.heap[w.heap.size]? = some (.cells #[.int .i64 k1, .int .i64 k2] 28 (0, 0))) := (hb2.block _ (blk_lt HX1.out)).trans HX1.out
  have HD2 : Hid (DA w2 D M L hf P es) := HD.out.1.kept HB2.out
  clear hb2 HB1 HX1
  obtain ⟨_, c1, _⟩ := HD2.out.cells
  have b0 : w2.cell? ⟨w.heap.size, 0, none⟩ = some (.int .i64 k1) := by rw [World.cell?, HX2.out]; rfl
  have b1 : w2.cell? ⟨w.heap.size, 1, none⟩ = some (.int .i64 k2) := by rw [World.cell?, HX2.out]; rfl
  have hl := HD2.out.lookN HD.out.2
  go_wp2_with fail
  go_quiet (fail)
  go_wp2
  go_ret
  exact ⟨rfl, HB2.out.trans (((Grew.refl w2).drewN _).below.mono HB2.out.size)⟩
end Go.Proofs.Ytenmkigoohpfmaa
