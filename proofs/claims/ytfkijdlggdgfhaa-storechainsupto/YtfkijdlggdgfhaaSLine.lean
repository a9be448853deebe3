/-
  A CHAIN's LINE; sort.Search IN IT: at, visible; numberAhead.
-/
import Derived.Test.YtfkijdlggdgfhaaSInsW
import Derived.Test.YtfkijdlggdgfhaaShelf5
import Derived.BigQuiet
namespace Go.Proofs.Ytfkijdlggdgfhaa
open Go.RowKit Go.Sort

instance : Inhabited Vr := ⟨v0⟩
/-- the chain in block c: its list from off on in g, with room for cc; ys its versions, the oldest first -/
structure Line (w : World) (c g off cc : Nat) (ys : List Vr) : Prop where
  ch : w.heap[c]? = some (.cells #[.slice (some ⟨g, off, none⟩) ys.length cc] 100 (0, 0))
  rw : RwV w g off cc (ys.map Vr.b)
  vb : ∀ v ∈ ys, w.heap[v.b]? = some (.cells (cellsV v) 82 (0, 0))
  nn : ys.Pairwise (fun a b => a.n < b.n)
  pl : ys.Pairwise (fun a b => later b a)
  sz : ys.length ≤ 65536
theorem SA.line {w : World} {S V D M L P : Nat} {hf : Value} {cap last : Int} {vs : List Vr} {es : List En} {R : K → Nat × Nat × Nat} (h : SA w S V D M L P hf cap last vs es R) {e : En} (he : e ∈ es) : Line w e.v (R e.k).1 (R e.k).2.1 (R e.k).2.2 (ofK e.k vs) :=
  ⟨h.ch e he, h.rwv he, fun v hv => h.vb v (List.mem_filter.1 hv).1, h.nn.filter _, h.pl e.k, by have h1 : (ofK e.k vs).length ≤ vs.length := List.length_filter_le _ _; have := h.lt; omega⟩
theorem Line.same {w w' : World} {c g off cc : Nat} {ys : List Vr} (h : Line w c g off cc ys) (hs : ∀ k, (k = c ∨ k = g ∨ ∃ v ∈ ys, v.b = k) → w'.heap[k]? = w.heap[k]?) : Line w' c g off cc ys :=
  ⟨(hs c (.inl rfl)).trans h.ch, h.rw.same (hs g (.inr (.inl rfl))), fun v hv => (hs _ (.inr (.inr ⟨v, hv, rfl⟩))).trans (h.vb v hv), h.nn, h.pl, h.sz⟩
theorem Line.lt {w : World} {c g off cc : Nat} {ys : List Vr} (h : Line w c g off cc ys) {k : Nat} (hk : k = c ∨ k = g ∨ ∃ v ∈ ys, v.b = k) : k < w.heap.size := by
  rcases hk with rfl | rfl | ⟨v, hv, rfl⟩
  · exact blk_lt h.ch
  · obtain ⟨⟨_, h1, _⟩, _⟩ := h.rw; exact blk_lt h1
  · exact blk_lt (h.vb v hv)
theorem Line.kept {w w' : World} {c g off cc : Nat} {ys : List Vr} (h : Line w c g off cc ys) (hb : Below w.heap.size w w') : Line w' c g off cc ys := h.same (fun _ hk => hb.block _ (h.lt hk))
theorem Line.chc {w : World} {c g off cc : Nat} {ys : List Vr} (h : Line w c g off cc ys) : w.cell? ⟨c, 0, none⟩ = some (.slice (some ⟨g, off, none⟩) ys.length cc) := by rw [World.cell?, h.ch]; rfl
theorem Line.rwc {w : World} {c g off cc : Nat} {ys : List Vr} (h : Line w c g off cc ys) {i : Nat} (hi : i < ys.length) : w.cell? ⟨g, off + i, none⟩ = some (ptr ys[i]!.b) := by
  have := h.rw.cell (j := i) (by rw [List.length_map]; exact hi)
  rw [this, List.getElem_map, getElem!_pos ys i hi]
theorem Line.vbc {w : World} {c g off cc : Nat} {ys : List Vr} (h : Line w c g off cc ys) {i : Nat} (hi : i < ys.length) : w.cell? ⟨ys[i]!.b, 0, none⟩ = some (.int .i64 ys[i]!.ba) ∧ w.cell? ⟨ys[i]!.b, 2, none⟩ = some (.int .i64 ys[i]!.n) := by
  have := h.vb ys[i]! (by rw [getElem!_pos ys i hi]; exact List.getElem_mem hi)
  refine ⟨?_, ?_⟩ <;> (rw [World.cell?, this]; rfl)
set_option maxRecDepth 100000 in
set_option maxHeartbeats 1000000 in
theorem at1_any (w : World) (Bc Bv c g off cc b : Nat) (ys : List Vr) (n : Int) (i : Nat) (h : Line w c g off cc ys) (hi : i < ys.length) (hc : w.cell? ⟨Bc, 0, none⟩ = some (ptr c)) (hv : w.cell? ⟨Bv, 0, none⟩ = some (ptr b)) (hb : w.cell? ⟨b, 2, none⟩ = some (.int .i64 n)) :
    Calls Try.prog 69 #[.int .i64 (i : Int), ptr Bc, ptr Bv] w fun e w' => e = .returned (.bool (decide (n ≤ ys[i]!.n))) ∧ ∃ q, w' = w.drewN q := by
  have c0 := h.chc
  have c1 := h.rwc hi
  obtain ⟨_, c2⟩ := h.vbc hi
  generalize ys[i]! = y at *
  generalize ys.length = m at *
  clear h
  obtain ⟨yb, yn, _, _, _, _, _, _⟩ := y
  simp only at c1 c2 ⊢
  cases hd : decide (n ≤ yn) with
  | true =>
    have h' := of_decide_eq_true hd
    go_enter Try.func69, Try.ntmps69
    go_wp2_with fail
    go_quiet (fail)
    go_wp2
    go_ret
    exact ⟨by simp, nq, rfl⟩
  | false =>
    have h' := of_decide_eq_false hd
    go_enter Try.func69, Try.ntmps69
    go_wp2_with fail
    go_quiet (fail)
    go_wp2
    go_ret
    exact ⟨by simp, nq, rfl⟩
set_option maxRecDepth 100000 in
set_option maxHeartbeats 1000000 in
theorem vis1_any (w : World) (Bc Bv c g off cc : Nat) (ys : List Vr) (n : Int) (i : Nat) (h : Line w c g off cc ys) (hi : i < ys.length) (hc : w.cell? ⟨Bc, 0, none⟩ = some (ptr c)) (hv : w.cell? ⟨Bv, 0, none⟩ = some (.int .i64 n)) :
    Calls Try.prog 54 #[.int .i64 (i : Int), ptr Bc, ptr Bv] w fun e w' => e = .returned (.bool (decide (n < ys[i]!.ba))) ∧ ∃ q, w' = w.drewN q := by
  have c0 := h.chc
  have c1 := h.rwc hi
  obtain ⟨c2, _⟩ := h.vbc hi
  generalize ys[i]! = y at *
  generalize ys.length = m at *
  clear h
  obtain ⟨yb, yn, _, yba, _, _, _, _⟩ := y
  simp only at c1 c2 ⊢
  cases hd : decide (n < yba) with
  | true =>
    have h' := of_decide_eq_true hd
    go_enter Try.func54, Try.ntmps54
    go_wp2_with fail
    go_quiet (fail)
    go_wp2
    go_ret
    exact ⟨by simp, nq, rfl⟩
  | false =>
    have h' := of_decide_eq_false hd
    go_enter Try.func54, Try.ntmps54
    go_wp2_with fail
    go_quiet (fail)
    go_wp2
    go_ret
    exact ⟨by simp, nq, rfl⟩
theorem count_split {f : Vr → Bool} {A C : List Vr} (hA : ∀ x ∈ A, f x = true) (hC : ∀ x ∈ C, f x = false) : (List.range (A ++ C).length).countP (fun i => f (A ++ C)[i]!) = A.length := by
  have h := Lib.countP_range (A ++ C).toArray f
  have e : (fun i : Nat => f (A ++ C).toArray[i]!) = (fun i : Nat => f (A ++ C)[i]!) := by funext i; simp
  rw [e] at h
  rw [show (A ++ C).toArray.size = (A ++ C).length by simp] at h
  rw [h]
  simp only [List.countP_append]
  rw [List.countP_eq_length.2 hA, List.countP_eq_zero.2 (fun x hx => by simp [hC x hx])]
  rfl
end Go.Proofs.Ytfkijdlggdgfhaa
