/-
  MAPS, OF WHATEVER KIND OF KEYS.
-/
import Derived.Test.YtbmohlkcmhhpgaaGreatKList
import Derived.DeepKeys4
import Derived.Maps.Keyed
import Derived.Maps.OwnSet
namespace Go.Proofs.YtbmohlkcmhhpgaaGreat
open Go.RowKit Go.Sort

theorem blk_lt {w : World} {k : Nat} {o : Obj} (h : w.heap[k]? = some o) : k < w.heap.size := (Array.getElem?_eq_some_iff.1 h).1
abbrev ptr (b : Nat) : Value := .pointer (some ⟨b, 0, none⟩)
/-- a kind of maps -/
structure MKd (T Tk Te : TypeId) {α : Type} (enc : α → Value) (dom : α → Prop) (z : Value) : Prop where
  u : Tryz.prog.underlying T = some (.map Tk Te)
  kd : Maps.Keyed Tryz.prog Tk
  lit : ∀ a, dom a → ∃ l, keyOf Tryz.prog Tk (enc a) = some l
  inj : ∀ a b, enc a = enc b → a = b
  zero : ∀ w, (zeroValue Te).run Tryz.prog w = .ok z w
/-- a map in block M: its entries in the order in which they came -/
structure MAt {α : Type} (enc : α → Value) (dom : α → Prop) (w : World) (M : Nat) (es : List (α × Value)) : Prop where
  ex : ∃ ms clock, w.heap[M]? = some (.map ms clock) ∧ ms.toList.map (fun x => (x.key, x.val)) = es.map (fun e => (enc e.1, e.2)) ∧ (ms.toList.map (fun x => x.born)).Nodup ∧ ∀ x ∈ ms.toList, x.born < clock
  kn : (es.map Prod.fst).Nodup
  dm : ∀ e ∈ es, dom e.1
/-- what is found -/
def fm {α : Type} [DecidableEq α] (es : List (α × Value)) (a : α) : Option Value := (es.find? (fun e => decide (e.1 = a))).map Prod.snd
theorem fm_none {α : Type} [DecidableEq α] {es : List (α × Value)} {a : α} (h : ∀ e ∈ es, e.1 ≠ a) : fm es a = none := by
  unfold fm
  rw [List.find?_eq_none.2 (fun e he => by simpa using h e he)]
  rfl
theorem fm_none' {α : Type} [DecidableEq α] {es : List (α × Value)} {a : α} (h : fm es a = none) : ∀ e ∈ es, e.1 ≠ a := by
  unfold fm at h
  intro e he
  have := List.find?_eq_none.1 (Option.map_eq_none_iff.1 h) e he
  simpa using this
theorem nodup_mid {α β : Type} {f : α → β} {A C : List α} {e : α} (h : ((A ++ e :: C).map f).Nodup) : (∀ x ∈ A, f x ≠ f e) ∧ (∀ x ∈ C, f x ≠ f e) := by
  rw [List.map_append, List.map_cons, List.nodup_append] at h
  obtain ⟨_, h2, h3⟩ := h
  rw [List.nodup_cons] at h2
  refine ⟨fun x hx e' => h3 (f x) (List.mem_map.2 ⟨x, hx, rfl⟩) (f e) (by simp) e', fun x hx e' => h2.1 (List.mem_map.2 ⟨x, hx, e'⟩)⟩
theorem fm_mid {α : Type} [DecidableEq α] {A C : List (α × Value)} {a : α} {v : Value} (hn : ((A ++ (a, v) :: C).map Prod.fst).Nodup) : fm (A ++ (a, v) :: C) a = some v := by
  have h := (nodup_mid hn).1
  unfold fm
  rw [List.find?_append, List.find?_eq_none.2 (fun x hx => by simpa using h x hx)]
  simp
theorem fm_some {α : Type} [DecidableEq α] {es : List (α × Value)} {a : α} {v : Value} (h : fm es a = some v) : ∃ A C, es = A ++ (a, v) :: C := by
  unfold fm at h
  obtain ⟨e, h1, h2⟩ := Option.map_eq_some_iff.1 h
  obtain ⟨A, C, h3⟩ := List.append_of_mem (List.mem_of_find?_eq_some h1)
  have h4 := List.find?_some h1
  simp at h4
  refine ⟨A, C, ?_⟩
  rw [h3, ← h4, ← h2]
theorem grown_setBlock (w : World) (M : Nat) (o : Obj) : w.grownBy (ChangeMaps.setBlock w M o) (some M) := by
  refine ⟨rfl, rfl, rfl, by simp [ChangeMaps.setBlock], fun k hk hne => ?_⟩
  have : M ≠ k := fun e => hne (by rw [e])
  simp [ChangeMaps.setBlock, this]
theorem setBlock_at {w : World} {M : Nat} (o : Obj) (h : M < w.heap.size) : (ChangeMaps.setBlock w M o).heap[M]? = some o := by
  simp [ChangeMaps.setBlock, h]
section
variable {T Tk Te : TypeId} {α : Type} {enc : α → Value} {dom : α → Prop} {z : Value} {w : World} {M : Nat} {es : List (α × Value)}
theorem MAt.lt (h : MAt enc dom w M es) : M < w.heap.size := by
  obtain ⟨_, _, h1, _⟩ := h.ex
  exact blk_lt h1
theorem MAt.same {w' : World} (h : MAt enc dom w M es) (hs : w'.heap[M]? = w.heap[M]?) : MAt enc dom w' M es := by
  obtain ⟨ms, c, h1, h2⟩ := h.ex
  exact ⟨⟨ms, c, hs.trans h1, h2⟩, h.kn, h.dm⟩
theorem MAt.kept {w' : World} (h : MAt enc dom w M es) (hb : Below w.heap.size w w') : MAt enc dom w' M es := h.same (hb.block M h.lt)
theorem MKd.find (H : MKd T Tk Te enc dom z) {ms : Array MapEntry} (hms : ms.toList.map (fun x => (x.key, x.val)) = es.map (fun e => (enc e.1, e.2))) (hdm : ∀ e ∈ es, dom e.1) {a : α} (ha : dom a) (w : World) :
    ((∀ e ∈ es, e.1 ≠ a) ∧ (Instr.findKey Tk (enc a) ms.toList).run Tryz.prog w = .ok none w) ∨ (∃ A v C, es = A ++ (a, v) :: C ∧ (Instr.findKey Tk (enc a) ms.toList).run Tryz.prog w = .ok (some (A.length, v)) w ∧ ∃ hj : A.length < ms.size, ms[A.length].key = enc a) := by
  obtain ⟨l, hl⟩ := H.lit a ha
  have hall : ∀ x ∈ ms.toList, ∃ l, keyOf Tryz.prog Tk x.key = some l := fun x hx => by
    have h1 : (x.key, x.val) ∈ es.map (fun e => (enc e.1, e.2)) := by rw [← hms]; exact List.mem_map.2 ⟨x, hx, rfl⟩
    obtain ⟨e, he, h2⟩ := List.mem_map.1 h1
    obtain ⟨l, h3⟩ := H.lit e.1 (hdm e he)
    exact ⟨l, by rw [← (Prod.mk.inj h2).1]; exact h3⟩
  rcases H.kd.find w hl ms.toList hall with ⟨h1, h2⟩ | ⟨j, x, h1, h2, h3⟩
  · refine .inl ⟨fun e he e' => ?_, h1⟩
    have h4 : (enc e.1, e.2) ∈ ms.toList.map (fun x => (x.key, x.val)) := by rw [hms]; exact List.mem_map.2 ⟨e, he, rfl⟩
    obtain ⟨x, hx, h5⟩ := List.mem_map.1 h4
    exact h2 x hx (by rw [(Prod.mk.inj h5).1, e'])
  · have h4 : (ms.toList.map (fun x => (x.key, x.val)))[j]? = some (x.key, x.val) := by rw [List.getElem?_map, h2]; rfl
    rw [hms, List.getElem?_map] at h4
    obtain ⟨e, he, h5⟩ := Option.map_eq_some_iff.1 h4
    obtain ⟨h6, h7⟩ := Prod.mk.inj h5
    have hek : e.1 = a := H.inj _ _ (h6.trans h3)
    obtain ⟨hj, hje⟩ := List.getElem?_eq_some_iff.1 he
    have hjl : (es.take j).length = j := by rw [List.length_take]; omega
    refine .inr ⟨es.take j, e.2, es.drop (j + 1), ?_, by rw [hjl, h1, h7], ?_⟩
    · rw [← hek, ← hje, ← List.drop_eq_getElem_cons hj, List.take_append_drop]
    · obtain ⟨hj2, hje2⟩ := List.getElem?_eq_some_iff.1 h2
      simp only [hjl]
      refine ⟨by simpa using hj2, ?_⟩
      rw [← h3, ← hje2]
      simp
theorem MKd.look [DecidableEq α] (H : MKd T Tk Te enc dom z) (h : MAt enc dom w M es) {a : α} (ha : dom a) : (Instr.lookup T (.map (some M)) (enc a) false).run Tryz.prog w = .ok ((fm es a).getD z) w := by
  obtain ⟨ms, c, h1, h2, h3, h4⟩ := h.ex
  obtain ⟨l, hl⟩ := H.lit a ha
  rcases H.find h2 h.dm ha w with ⟨h5, h6⟩ | ⟨A, v, C, h5, h6, _⟩
  · rw [fm_none h5]
    simp [Instr.lookup, run_underlying H.u, MapKept.run_getObj_map h1, H.kd.check w _ hl, h6, Result.andThen, H.zero]
  · have h7 : fm es a = some v := by rw [h5]; exact fm_mid (by rw [← h5]; exact h.kn)
    rw [h7]
    simp [Instr.lookup, run_underlying H.u, MapKept.run_getObj_map h1, H.kd.check w _ hl, h6, Result.andThen]
theorem MKd.look2 [DecidableEq α] (H : MKd T Tk Te enc dom z) (h : MAt enc dom w M es) {a : α} (ha : dom a) : (Instr.lookup T (.map (some M)) (enc a) true).run Tryz.prog w = .ok (.tuple #[(fm es a).getD z, .bool (fm es a).isSome]) w := by
  obtain ⟨ms, c, h1, h2, h3, h4⟩ := h.ex
  obtain ⟨l, hl⟩ := H.lit a ha
  rcases H.find h2 h.dm ha w with ⟨h5, h6⟩ | ⟨A, v, C, h5, h6, _⟩
  · rw [fm_none h5]
    simp [Instr.lookup, run_underlying H.u, MapKept.run_getObj_map h1, H.kd.check w _ hl, h6, Result.andThen, H.zero]
  · have h7 : fm es a = some v := by rw [h5]; exact fm_mid (by rw [← h5]; exact h.kn)
    rw [h7]
    simp [Instr.lookup, run_underlying H.u, MapKept.run_getObj_map h1, H.kd.check w _ hl, h6, Result.andThen]
theorem MKd.len (H : MKd T Tk Te enc dom z) (h : MAt enc dom w M es) (ty : TypeId) : (Builtin.len_ #[T] ty #[.map (some M)]).run Tryz.prog w = .ok (.int .i64 (es.length : Int)) w := by
  obtain ⟨ms, c, h1, h2, _⟩ := h.ex
  have e1 : ms.size = es.length := by have := congrArg List.length h2; simpa using this
  simp [Builtin.len_, run_underlying H.u, MapKept.run_getObj_map h1, goInt, Result.andThen, e1]
/-- a new key -/
theorem MKd.putNew (H : MKd T Tk Te enc dom z) (h : MAt enc dom w M es) {a : α} (ha : dom a) (hn : ∀ e ∈ es, e.1 ≠ a) (v : Value) : ∃ W, (Instr.mapUpdate T (.map (some M)) (enc a) v).run Tryz.prog w = .ok () W ∧ MAt enc dom W M (es ++ [(a, v)]) ∧ w.grownBy W (some M) := by
  obtain ⟨ms, c, h1, h2, h3, h4⟩ := h.ex
  obtain ⟨l, hl⟩ := H.lit a ha
  rcases H.find h2 h.dm ha w with ⟨_, h6⟩ | ⟨A, v', C, h5, _⟩
  · refine ⟨ChangeMaps.setBlock w M (.map (ms.push ⟨enc a, v, c⟩) (c + 1)), ?_, ⟨⟨_, _, setBlock_at _ (blk_lt h1), ?_, ?_, ?_⟩, ?_, ?_⟩, grown_setBlock _ _ _⟩
    · simp [Instr.mapUpdate, run_underlying H.u, MapKept.run_getObj_map h1, H.kd.check w false hl, h6, MapKept.run_setObj_map _ h1, Result.andThen, ChangeMaps.setBlock]
    · simp [h2]
    · rw [Array.toList_push, List.map_append, List.nodup_append]
      refine ⟨h3, by simp, fun x hx y hy => ?_⟩
      obtain ⟨e, he, rfl⟩ := List.mem_map.1 hx
      simp at hy
      subst hy
      have := h4 e he
      omega
    · intro x hx
      rw [Array.toList_push] at hx
      rcases List.mem_append.1 hx with hx | hx
      · have := h4 x hx; omega
      · simp at hx; subst hx; simp
    · rw [List.map_append, List.nodup_append]
      refine ⟨h.kn, by simp, fun x hx y hy => ?_⟩
      obtain ⟨e, he, rfl⟩ := List.mem_map.1 hx
      simp at hy
      subst hy
      exact hn e he
    · intro e he
      rcases List.mem_append.1 he with he | he
      · exact h.dm e he
      · simp at he; subst he; exact ha
  · exact absurd rfl (hn (a, v') (by rw [h5]; simp))
theorem mid_uniq {A A' C C' : List (α × Value)} {a : α} {u u' : Value} (hn : ((A ++ (a, u) :: C).map Prod.fst).Nodup) (h : A ++ (a, u) :: C = A' ++ (a, u') :: C') : A' = A ∧ u' = u ∧ C' = C := by
  have h1 := (nodup_mid hn).1
  have hn' := hn
  rw [h] at hn'
  have h2 := (nodup_mid hn').1
  clear hn'
  induction A generalizing A' with
  | nil =>
    cases A' with
    | nil => simp at h; exact ⟨rfl, h.1.symm, h.2.symm⟩
    | cons b A' => simp at h; exact absurd (by rw [← h.1]) (h2 b (by simp))
  | cons b A ih =>
    cases A' with
    | nil => simp at h; exact absurd (by rw [h.1]) (h1 b (by simp))
    | cons b' A' =>
      simp at h
      obtain ⟨rfl, h⟩ := h
      have hn2 : ((A ++ (a, u) :: C).map Prod.fst).Nodup := by
        rw [List.cons_append, List.map_cons] at hn
        exact (List.nodup_cons.1 hn).2
      obtain ⟨h3, h4, h5⟩ := ih hn2 h (fun x hx => h1 x (by simp [hx])) (fun x hx => h2 x (by simp [hx]))
      exact ⟨by rw [h3], h4, h5⟩
/-- a key that is there -/
theorem MKd.putOld (H : MKd T Tk Te enc dom z) {A C : List (α × Value)} {a : α} {u : Value} (h : MAt enc dom w M (A ++ (a, u) :: C)) (v : Value) : ∃ W, (Instr.mapUpdate T (.map (some M)) (enc a) v).run Tryz.prog w = .ok () W ∧ MAt enc dom W M (A ++ (a, v) :: C) ∧ w.grownBy W (some M) := by
  obtain ⟨ms, c, h1, h2, h3, h4⟩ := h.ex
  have ha : dom a := h.dm (a, u) (by simp)
  obtain ⟨l, hl⟩ := H.lit a ha
  rcases H.find h2 h.dm ha w with ⟨h5, _⟩ | ⟨A', v', C', h5, h6, hj, hjk⟩
  · exact absurd rfl (h5 (a, u) (by simp))
  · obtain ⟨rfl, rfl, rfl⟩ := mid_uniq h.kn h5
    have hst := H.kd.stays w hl
    have h7 : ((ms[A'.length]?).map (fun x => x.key)).getD (enc a) = enc a := by rw [Array.getElem?_eq_getElem hj]; simp [hjk]
    refine ⟨ChangeMaps.setBlock w M (.map (ms.modify A'.length fun e => { e with key := enc a, val := v }) c), ?_, ⟨⟨_, _, setBlock_at _ (blk_lt h1), ?_, ?_, ?_⟩, ?_, ?_⟩, grown_setBlock _ _ _⟩
    · simp [Instr.mapUpdate, run_underlying H.u, MapKept.run_getObj_map h1, H.kd.check w false hl, h6, MapKept.run_setObj_map _ h1, Result.andThen, ChangeMaps.setBlock, h7, hst]
    · refine List.ext_getElem? (fun i => ?_)
      have e1 := congrArg (fun l => l[i]?) h2
      simp only [List.getElem?_map, Array.getElem?_toList] at e1 ⊢
      rw [Array.getElem?_modify]
      split
      · rename_i hi
        subst hi
        rw [Array.getElem?_eq_getElem hj]
        simp
      · rename_i hi
        have e9 : (A' ++ (a, v') :: C')[i]? = (A' ++ (a, v) :: C')[i]? := by
          rcases Nat.lt_or_gt_of_ne hi with hlt | hgt
          · rw [List.getElem?_append_right (by omega), List.getElem?_append_right (by omega)]
            obtain ⟨m, hm⟩ : ∃ m, i - A'.length = m + 1 := ⟨i - A'.length - 1, by omega⟩
            rw [hm]
            rfl
          · rw [List.getElem?_append_left (by omega), List.getElem?_append_left (by omega)]
        rw [e1, e9]
    · have e2 : (ms.modify A'.length fun e => { e with key := enc a, val := v }).toList.map (fun x => x.born) = ms.toList.map (fun x => x.born) := by
        refine List.ext_getElem? (fun i => ?_)
        simp only [List.getElem?_map, Array.getElem?_toList]
        rw [Array.getElem?_modify]
        split
        · rename_i hi
          subst hi
          rw [Array.getElem?_eq_getElem hj]
          simp
        · rfl
      rw [e2]
      exact h3
    · intro x hx
      obtain ⟨i, hi, rfl⟩ := List.getElem_of_mem hx
      have hm : ms[i]'(by simpa using hi) ∈ ms.toList := by simp
      have hlt := h4 _ hm
      simp only [Array.getElem_toList, Array.getElem_modify]
      split
      · exact hlt
      · exact hlt
    · have := h.kn; simpa using this
    · intro e he
      rcases List.mem_append.1 he with he | he
      · exact h.dm e (by simp [he])
      · rcases List.mem_cons.1 he with rfl | he
        · exact ha
        · exact h.dm e (by simp [he])
theorem MKd.del (H : MKd T Tk Te enc dom z) {A C : List (α × Value)} {a : α} {u : Value} (h : MAt enc dom w M (A ++ (a, u) :: C)) : ∃ W, (∀ ty, (Builtin.delete_ #[T, Tk] ty #[.map (some M), enc a]).run Tryz.prog w = .ok (.tuple #[]) W) ∧ MAt enc dom W M (A ++ C) ∧ w.grownBy W (some M) := by
  obtain ⟨ms, c, h1, h2, h3, h4⟩ := h.ex
  have ha : dom a := h.dm (a, u) (by simp)
  obtain ⟨l, hl⟩ := H.lit a ha
  rcases H.find h2 h.dm ha w with ⟨h5, _⟩ | ⟨A', v', C', h5, h6, hj, hjk⟩
  · exact absurd rfl (h5 (a, u) (by simp))
  · obtain ⟨rfl, rfl, rfl⟩ := mid_uniq h.kn h5
    have hsub : (ms.eraseIdxIfInBounds A'.length).toList = ms.toList.eraseIdx A'.length := by
      rw [Array.eraseIdxIfInBounds, dif_pos hj]
      simp
    refine ⟨ChangeMaps.setBlock w M (.map (ms.eraseIdxIfInBounds A'.length) c), fun ty => ?_, ⟨⟨_, _, setBlock_at _ (blk_lt h1), ?_, ?_, ?_⟩, ?_, ?_⟩, grown_setBlock _ _ _⟩
    · simp [Builtin.delete_, run_underlying H.u, MapKept.run_getObj_map h1, H.kd.check w _ hl, h6, MapKept.run_setObj_map _ h1, Result.andThen, ChangeMaps.setBlock]
    · rw [hsub, ChangeMaps.map_eraseIdx, h2, ← ChangeMaps.map_eraseIdx]
      simp [List.eraseIdx_append_of_length_le]
    · rw [hsub]
      exact h3.sublist ((List.eraseIdx_sublist _ _).map _)
    · intro x hx
      rw [hsub] at hx
      exact h4 x ((List.eraseIdx_sublist _ _).subset hx)
    · exact h.kn.sublist ((List.Sublist.append_left (List.sublist_cons_self _ _) _).map _)
    · intro e he
      exact h.dm e ((List.Sublist.append_left (List.sublist_cons_self _ _) _).subset he)
end
theorem MKd.make {T Tk Te : TypeId} {α : Type} {enc : α → Value} {dom : α → Prop} {z : Value} (_ : MKd T Tk Te enc dom z) (w : World) : (Instr.makeMap T none).run Tryz.prog w = .ok (.map (some w.heap.size)) (w.alloc (.map #[] 0)) := by simp [Instr.makeMap, Result.andThen]
theorem MAt.new {α : Type} {enc : α → Value} {dom : α → Prop} {w : World} {M : Nat} (h : w.heap[M]? = some (.map #[] 0)) : MAt enc dom w M [] := ⟨⟨#[], 0, h, rfl, by simp, by simp⟩, by simp, by simp⟩
end Go.Proofs.YtbmohlkcmhhpgaaGreat
