import Derived.Test.YtlilaicgmdbhcaaJ21
import Derived.Test.YtlilaicgmdbhcaaJ28
import Derived.Test.YtlilaicgmdbhcaaJ33
import Derived.Test.YtlilaicgmdbhcaaJ03
import Derived.SizedLaws
import Derived.Lib.SmallJoins
/-
  WHAT THE TWO Decodes ANSWER, IN ONE FORM; rows for the shelf.
-/
namespace Go.Proofs.Ytlilaicgmdbhcaa.Kk
open Go.RowKit Go.Sort

def DecIt (u W : World) (zs : List Nat) (v : Value) (q x : Int) : Prop := match decR zs with
  | .ok Ts => q = 0 ∧ x = 0 ∧ OwnBat u Ts v W
  | .error (q', x') => v = .slice none 0 0 ∧ q = (q' : Int) ∧ x = x'
theorem dec_it (w : World) (ao : Option Addr) (n cap : Nat) (zs : List Nat) (hn : n = zs.length) (h : BytesAt w ao zs) (hm : n ≤ 140737488355328) :
    Calls Try.prog 14 #[.slice ao n cap] w fun e w' => ∃ v q x, e = .returned (.tuple #[v, .int .i64 q, .int .i64 x]) ∧ DecIt w w' zs v q x ∧ Below w.heap.size w w' := by
  refine (decode_b w ao n cap zs hn h hm).mono ?_
  intro e w' hp
  unfold DecPost at hp
  unfold DecIt
  cases hd : decR zs with
  | ok Ts =>
    rw [hd] at hp
    obtain ⟨v, rfl, ho, hb⟩ := hp
    exact ⟨v, 0, 0, rfl, ⟨rfl, rfl, ho⟩, hb⟩
  | error x =>
    obtain ⟨q, x⟩ := x
    rw [hd] at hp
    obtain ⟨rfl, hb⟩ := hp
    exact ⟨_, q, x, rfl, ⟨rfl, rfl, rfl⟩, hb⟩
theorem DecIt.same {u W W' : World} {zs : List Nat} {v : Value} {q x : Int} (h : DecIt u W zs v q x) (hs : ∀ G, u.heap.size ≤ G → G < W.heap.size → W'.heap[G]? = W.heap[G]?) (hz : W.heap.size ≤ W'.heap.size) : DecIt u W' zs v q x := by
  unfold DecIt at *
  cases hd : decR zs with
  | ok Ts =>
    rw [hd] at h
    obtain ⟨h1, h2, g, Qs, lo, h3, hd2⟩ := h
    exact ⟨h1, h2, g, Qs, lo, h3, hd2.same (fun G hg hl => hs G (Nat.le_trans hd2.ge hg) hl) hz⟩
  | error x => rw [hd] at h; exact h
theorem DecIt.kept {u W W' : World} {zs : List Nat} {v : Value} {q x : Int} (h : DecIt u W zs v q x) (hb : Below W.heap.size W W') : DecIt u W' zs v q x := h.same (fun G _ hl => hb.block G hl) hb.size
def RefIt (u W : World) (zs : List Nat) (v : Value) (q x : Int) : Prop := match decR zs with
  | .ok Ts => q = 0 ∧ x = 0 ∧ ∃ Qs ao cap, Qs.map Bx.t = Ts ∧ v = .slice ao Qs.length cap ∧ OwnT W (u.heap.size + 1) v Qs ∧ ∀ y ∈ Qs, TxC W (u.heap.size + 1) y
  | .error (q', x') => v = .slice none 0 0 ∧ q = (q' : Int) ∧ x = x'
theorem ref_it (w : World) (ao : Option Addr) (n cap : Nat) (b : List Nat) (h : BytesAt w ao b) (hn : n = b.length) (hm : n ≤ 140737488355328) (hlc : n ≤ cap) (hcm : cap ≤ maxLen) (hnil : ao = none → cap = 0) :
    Calls Try.prog 15 #[.slice ao n cap] w fun e w' => ∃ v q x, e = .returned (.tuple #[v, .int .i64 q, .int .i64 x]) ∧ RefIt w w' b v q x ∧ Below w.heap.size w w' := by
  refine (refDecB_any w ao n cap b h hn hm hlc hcm hnil).mono ?_
  rintro e w' ⟨hb, hp⟩
  unfold RefIt
  cases hd : decR b with
  | ok Ts =>
    rw [hd] at hp
    obtain ⟨Qs, a, c, h1, rfl, h2, h3⟩ := hp
    exact ⟨_, 0, 0, rfl, ⟨rfl, rfl, Qs, a, c, h1, rfl, h2, h3⟩, hb⟩
  | error x =>
    obtain ⟨q, x⟩ := x
    rw [hd] at hp
    exact ⟨_, q, x, hp, ⟨rfl, rfl, rfl⟩, hb⟩
theorem RefIt.same {u W W' : World} {zs : List Nat} {v : Value} {q x : Int} (h : RefIt u W zs v q x) (hs : ∀ G, u.heap.size ≤ G → G < W.heap.size → W'.heap[G]? = W.heap[G]?) : RefIt u W' zs v q x := by
  unfold RefIt at *
  cases hd : decR zs with
  | ok Ts =>
    rw [hd] at h
    obtain ⟨h1, h2, Qs, a, c, h3, h4, h5, h6⟩ := h
    exact ⟨h1, h2, Qs, a, c, h3, h4, h5.same (fun g hg => hs g (by have := (h5.lt g hg).1; omega) (h5.lt g hg).2), fun y hy => (h6 y hy).same fun g hg => hs g (by have := ((h6 y hy).lt hg).1; omega) ((h6 y hy).lt hg).2⟩
  | error x => rw [hd] at h; exact h
theorem RefIt.kept {u W W' : World} {zs : List Nat} {v : Value} {q x : Int} (h : RefIt u W zs v q x) (hb : Below W.heap.size W W') : RefIt u W' zs v q x := h.same (fun G _ hl => hb.block G hl)
theorem it_eq {u u' W W' : World} {zs : List Nat} {v v' : Value} {q x q' x' : Int} (h : DecIt u W zs v q x) (h' : RefIt u' W' zs v' q' x') : q' = q ∧ x' = x := by
  unfold DecIt at h
  unfold RefIt at h'
  cases hd : decR zs with
  | ok Ts => rw [hd] at h h'; exact ⟨h'.1.trans h.1.symm, h'.2.1.trans h.2.1.symm⟩
  | error x => rw [hd] at h h'; exact ⟨h'.2.1.trans h.2.1.symm, h'.2.2.trans h.2.2.symm⟩
theorem TxC.ok2 {W : World} {base : Nat} {y : Bx} (h : TxC W base y) (hw : WF y.t) (hi : TIn y.t) : BxOK W y := by
  obtain ⟨a1, c1, e1, n1, m1, l1⟩ := h.a.slice
  obtain ⟨a2, c2, e2, n2, m2, l2⟩ := h.r.slice
  obtain ⟨a3, c3, e3, n3, m3, l3⟩ := h.w.slice
  simp only [Value.slice.injEq, true_and] at e1 e2 e3
  obtain ⟨⟨rfl, rfl⟩, ⟨rfl, rfl⟩, ⟨rfl, rfl⟩⟩ := And.intro e1 (And.intro e2 e3)
  have a := hw.a; have r := hw.r; have w := hw.w; have p0 := hw.p0; have p1 := hw.p1
  exact ⟨n1, n2, n3, ⟨by omega, by omega⟩, hi.a, hi.r, hi.w, m1, m2, m3, l1, l2, l3, by omega, by omega, by omega⟩
/-- they are the same -/
theorem same_it {u u' W : World} {zs : List Nat} {v v' : Value} {q x q' x' : Int} (hz : ∀ z ∈ zs, z < 256) (h : DecIt u W zs v q x) (h' : RefIt u' W zs v' q' x') :
    Calls Try.prog 16 #[v, v'] W fun e w' => e = .returned (.bool true) ∧ Grew W w' := by
  unfold DecIt at h
  unfold RefIt at h'
  cases hd : decR zs with
  | ok Ts =>
    have hb := decR_back hz hd
    rw [hd] at h h'
    obtain ⟨_, _, ho⟩ := h
    obtain ⟨_, _, Qs, a, c, h3, rfl, h5, h6⟩ := h'
    obtain ⟨g, Xs, rfl, hX, hT, hLn⟩ := ho.lst hb.2.2
    obtain ⟨a1, c1, e1, n1, _, _⟩ := h5.slice
    simp only [Value.slice.injEq, true_and] at e1
    obtain ⟨rfl, rfl⟩ := e1
    have hQ : BatAt W a Qs := ⟨n1, fun y hy => (h6 y hy).ok2 (hb.2.2 y.t (by rw [← h3]; exact List.mem_map.2 ⟨y, hy, rfl⟩)).1 (hb.2.2 y.t (by rw [← h3]; exact List.mem_map.2 ⟨y, hy, rfl⟩)).2⟩
    have hl : Qs.length = Ts.length := by rw [← h3, List.length_map]
    rw [hl]
    exact sameBatch_eq W _ _ Ts.length Ts.length c Xs Qs (Like.of hX hQ (by rw [hT, h3])) hLn (by have := hb.2.1; omega)
  | error x =>
    rw [hd] at h h'
    obtain ⟨rfl, _, _⟩ := h
    obtain ⟨rfl, _, _⟩ := h'
    have hb : BatAt W none [] := ⟨.inl rfl, fun x hx => by cases hx⟩
    exact sameBatch_eq W none none 0 0 0 [] [] (Like.of hb hb rfl) rfl (by omega)
/-- on the shelf -/
theorem DecIt.bt {u W : World} {zs : List Nat} {v : Value} {q x : Int} (hz : ∀ z ∈ zs, z < 256) (h : DecIt u W zs v q x) (hu : u.heap.size ≤ W.heap.size) : ∃ y A R V lo, v = itv y ∧ BT u W W.heap.size y A R V lo := by
  unfold DecIt at h
  cases hd : decR zs with
  | error x =>
    rw [hd] at h
    obtain ⟨rfl, _, _⟩ := h
    exact ⟨(none, 0), fun _ => (none, 0), fun _ => (none, 0), fun _ => (none, 0), fun _ => W.heap.size, rfl, ⟨rfl, by simp, fun j hj => by simp at hj, fun j hj => by simp at hj, fun j hj => by simp at hj, fun j hj => by simp at hj, fun j hj => by simp at hj, fun _ => Nat.le_refl _, hu, Nat.le_refl _⟩⟩
  | ok Ts =>
    have hb := decR_back hz hd
    rw [hd] at h
    obtain ⟨_, _, g, Qs, lo, rfl, hD⟩ := h
    obtain ⟨hBt, hts, hlen⟩ := hD.bat hb.2.2
    have hw : ∀ j, j < Ts.length → WF (bd Qs j).t := fun j hj => (hb.2.2 _ (by rw [← hts]; exact List.mem_map.2 ⟨_, bd_mem (by rw [hlen]; exact hj), rfl⟩)).1
    have hmono : ∀ i, lo (min i Ts.length) ≤ lo (min (i + 1) Ts.length) := fun i => by
      by_cases hi : i < Ts.length
      · rw [Nat.min_eq_left (by omega), Nat.min_eq_left (by omega)]; exact hD.mono i hi
      · rw [Nat.min_eq_right (by omega), Nat.min_eq_right (by omega)]; exact Nat.le_refl _
    have parts : ∀ j, j < Ts.length → ∃ ga gr gw, ((bd Qs j).aA = some ⟨ga, 0, none⟩ ∧ (bd Qs j).cA = (bd Qs j).t.args.length ∧ (bd Qs j).aR = some ⟨gr, 0, none⟩ ∧ (bd Qs j).cR = (bd Qs j).t.reads.length ∧ (bd Qs j).aW = some ⟨gw, 0, none⟩ ∧ (bd Qs j).cW = (bd Qs j).t.writes.length) ∧ R64 W ga (bd Qs j).t.args ∧ RK W gr (bd Qs j).t.reads ∧ RK W gw (bd Qs j).t.writes ∧ lo j ≤ ga ∧ ga < gr ∧ gr < gw ∧ gw < lo (j + 1) ∧ min j Ts.length = j ∧ min (j + 1) Ts.length = j + 1 := fun j hj => by
      obtain ⟨ga, gr, gw, e, r⟩ := hD.one j hj
      refine ⟨ga, gr, gw, ?_, r.1, r.2.1, r.2.2.1, r.2.2.2.1, r.2.2.2.2.1, r.2.2.2.2.2.1, r.2.2.2.2.2.2, Nat.min_eq_left (by omega), Nat.min_eq_left (by omega)⟩
      generalize bd Qs j = z at *
      obtain ⟨t, aA, cA, aR, cR, aW, cW⟩ := z
      simp only [Bx.mk.injEq, true_and] at e
      exact e
    refine ⟨(some g, Ts.length), fun j => ((bd Qs j).aA.map (·.block), (bd Qs j).t.args.length), fun j => ((bd Qs j).aR.map (·.block), (bd Qs j).t.reads.length), fun j => ((bd Qs j).aW.map (·.block), (bd Qs j).t.writes.length), fun i => lo (min i Ts.length), rfl, ?_⟩
    have hrow : W.heap[g]? = some (.cells (bxcs Qs).toArray 57 (0, 0)) := hD.row
    refine ⟨⟨hD.ge, (Array.getElem?_eq_some_iff.1 hrow).1, _, hrow, by simp [bxcs_length, hlen]⟩, hb.2.1, fun j hj g' e => ?_, fun j hj => ?_, fun j hj => ?_, fun j hj => ?_, fun j hj a b e1 e2 => ?_, hmono, ?_, ?_⟩
    · cases e
      obtain ⟨_, c1, c2, c3⟩ := hD.row.cell j (by rw [hlen]; exact hj)
      obtain ⟨ga, gr, gw, e, _⟩ := parts j hj
      obtain ⟨e1, e2, e3, e4, e5, e6⟩ := e
      rw [c1, c2, c3, e1, e2, e3, e4, e5, e6]
      exact ⟨rfl, rfl, rfl⟩
    · obtain ⟨ga, gr, gw, ⟨e1, e2, e3, e4, e5, e6⟩, h1, h2, h3, g1, g2, g3, g4, m1, m2⟩ := parts j hj
      simp only [m1, m2, e1, Option.map_some]
      have h1' : W.heap[ga]? = some (.cells (cellsI (bd Qs j).t.args) 2 (0, 0)) := h1
      exact ⟨⟨g1, by omega, _, h1', by rw [size_cellsI, Nat.mul_one]⟩, by have := (hw j hj).a; omega⟩
    · obtain ⟨ga, gr, gw, ⟨e1, e2, e3, e4, e5, e6⟩, h1, h2, h3, g1, g2, g3, g4, m1, m2⟩ := parts j hj
      simp only [m1, m2, e3, Option.map_some]
      have h2' : W.heap[gr]? = some (.cells (cks (bd Qs j).t.reads).toArray 77 (0, 0)) := h2
      exact ⟨⟨by omega, by omega, _, h2', by simp [cks_length]⟩, by have := (hw j hj).r; omega⟩
    · obtain ⟨ga, gr, gw, ⟨e1, e2, e3, e4, e5, e6⟩, h1, h2, h3, g1, g2, g3, g4, m1, m2⟩ := parts j hj
      simp only [m1, m2, e5, Option.map_some]
      have h3' : W.heap[gw]? = some (.cells (cks (bd Qs j).t.writes).toArray 77 (0, 0)) := h3
      exact ⟨⟨by omega, by omega, _, h3', by simp [cks_length]⟩, by have := (hw j hj).w; omega⟩
    · obtain ⟨ga, gr, gw, ⟨e1', e2', e3', e4', e5', e6'⟩, h1, h2, h3, g1, g2, g3, g4, m1, m2⟩ := parts j hj
      simp only [e3', e5', Option.map_some, Option.some.injEq] at e1 e2
      omega
    · simp only [Nat.zero_min]
      have := hD.ge
      have := hD.lo0
      omega
    · simp only [Nat.min_self]
      exact hD.lok
end Go.Proofs.Ytlilaicgmdbhcaa.Kk
/-
  BatchDecodes: THE LAW.
-/
namespace Go.Proofs.Ytlilaicgmdbhcaa.Kk
open Go.RowKit Go.Sort

theorem BT.same2 {u W W' : World} {B : Nat} {x : It} {A R V : Nat → It} {lo : Nat → Nat} (h : BT u W B x A R V lo) (hs : ∀ G, u.heap.size ≤ G → G < B → W'.heap[G]? = W.heap[G]?) : BT u W' B x A R V lo := by
  have hl : ∀ j, j < x.2 → lo (j + 1) ≤ B := fun j hj => Nat.le_trans (h.mono (show j + 1 ≤ x.2 by omega)) h.ln
  have hl0 : ∀ j, u.heap.size ≤ lo j := fun j => Nat.le_trans h.l0 (h.mono (Nat.zero_le j))
  have hrw : ∀ {T : TypeId} {sz lo hi : Nat} {x : It}, Rw W T sz lo hi x → u.heap.size ≤ lo → hi ≤ B → Rw W' T sz lo hi x := fun {T sz lo hi x} hr h1 h2 => by
    obtain ⟨o, n⟩ := x
    cases o with
    | none => exact hr
    | some g =>
      obtain ⟨a, b, cur, c, d⟩ := hr.at
      exact ⟨a, b, cur, (hs g (by omega) (by omega)).trans c, d⟩
  refine ⟨hrw h.rx (Nat.le_refl _) (Nat.le_refl _), h.lx, fun j hj g e => ?_, fun j hj => ⟨hrw (h.rA j hj).1 (hl0 j) (hl j hj), (h.rA j hj).2⟩, fun j hj => ⟨hrw (h.rR j hj).1 (hl0 j) (hl j hj), (h.rR j hj).2⟩, fun j hj => ⟨hrw (h.rV j hj).1 (hl0 j) (hl j hj), (h.rV j hj).2⟩, h.rv, h.mn, h.l0, h.ln⟩
  have hg := h.rx.lo e
  obtain ⟨e1, e2, e3⟩ := h.cl j hj g e
  have hb := hs g hg.1 hg.2
  simp only [World.cell?] at e1 e2 e3 ⊢
  rw [hb]
  exact ⟨e1, e2, e3⟩
theorem BT.adapt {u w0 W : World} {B B' : Nat} {x : It} {A R V : Nat → It} {lo : Nat → Nat} (h : BT u W B x A R V lo) (hu : w0.heap.size ≤ u.heap.size) (hB : B ≤ B') : BT w0 W B' x A R V lo :=
  ⟨h.rx.move hu hB, h.lx, h.cl, h.rA, h.rR, h.rV, h.rv, h.mn, Nat.le_trans hu h.l0, Nat.le_trans h.ln hB⟩
theorem BT.undK {u W : World} {B : Nat} {x : It} {A R V : Nat → It} {lo : Nat → Nat} (h : BT u W B x A R V lo) : Und (ksN R V x.2) B := fun y hy g e => by
  simp only [ksN, List.mem_flatMap, List.mem_range] at hy
  obtain ⟨j, hj, hy⟩ := hy
  have hl : lo (j + 1) ≤ B := Nat.le_trans (h.mono (show j + 1 ≤ x.2 by omega)) h.ln
  simp only [List.mem_cons, List.not_mem_nil, or_false] at hy
  rcases hy with rfl | rfl
  · have := ((h.rR j hj).1.lo e).2; omega
  · have := ((h.rV j hj).1.lo e).2; omega
theorem BT.undI {u W : World} {B : Nat} {x : It} {A R V : Nat → It} {lo : Nat → Nat} (h : BT u W B x A R V lo) : Und (isN A x.2) B := fun y hy g e => by
  simp only [isN, List.mem_map, List.mem_range] at hy
  obtain ⟨j, hj, rfl⟩ := hy
  have hl : lo (j + 1) ≤ B := Nat.le_trans (h.mono (show j + 1 ≤ x.2 by omega)) h.ln
  have := ((h.rA j hj).1.lo e).2
  omega
/-- a row of bytes, whatever they are -/
def R8 (W : World) (g n : Nat) : Prop := ∃ cur, W.heap[g]? = some (.cells cur 5 (0, 0)) ∧ n ≤ cur.size ∧ ∀ j, j < n → ∃ z : Int, cur[j]? = some (.int .u8 z)
theorem R8.cell {W : World} {g n : Nat} (h : R8 W g n) {j : Nat} (hj : j < n) : ∃ z : Int, W.cell? ⟨g, j, none⟩ = some (.int .u8 z) := by
  obtain ⟨cur, h1, _, h3⟩ := h
  obtain ⟨z, hz⟩ := h3 j hj
  exact ⟨z, by simp only [World.cell?, h1]; exact hz⟩
theorem R8.frozen {W : World} {g n : Nat} (h : R8 W g n) (j : Nat) : W.frozen? ⟨g, j, none⟩ = false := by
  obtain ⟨cur, h1, _⟩ := h
  exact frozen_of_row W g j _ _ h1
theorem R8.set {W : World} {g n : Nat} (h : R8 W g n) (k : Nat) (z : Int) : R8 (W.setCell ⟨g, k, none⟩ (.int .u8 z)) g n := by
  obtain ⟨cur, h1, h2, h3⟩ := h
  refine ⟨_, heap_setCell_same W g k _ _ _ h1, by simpa using h2, fun j hj => ?_⟩
  by_cases e : k = j
  · subst e
    exact ⟨z, by simp [show k < cur.size by omega]⟩
  · obtain ⟨y, hy⟩ := h3 j hj
    exact ⟨y, by simp only [Array.getElem?_setIfInBounds, if_neg e]; exact hy⟩
theorem R8.same {W W' : World} {g n : Nat} (h : R8 W g n) (hb : W'.heap[g]? = W.heap[g]?) : R8 W' g n := by
  obtain ⟨cur, h1, h2⟩ := h
  exact ⟨cur, hb.trans h1, h2⟩
theorem own_some {w : World} {base : Nat} {v : Value} {zs : List Nat} {z n : Nat} (h : OwnB w base v (zs ++ [z])) (hn : n = zs.length) : ∃ g cap, v = .slice (some ⟨g, 0, none⟩) (n + 1) cap ∧ base ≤ g ∧ g < w.heap.size ∧ n + 1 ≤ cap ∧ cap ≤ maxLen ∧ BytesAt w (some ⟨g, 0, none⟩) (zs ++ [z]) ∧ R8 w g (n + 1) := by
  subst hn
  have hl1 : (zs ++ [z]).length = zs.length + 1 := by simp
  rcases h.shape with ⟨_, h0⟩ | ⟨g, cap, e, h1, h2, h3, h4, h5⟩
  · simp at h0
  · refine ⟨g, cap, by rw [e, hl1], h1, h2, by omega, h4, h5, ?_⟩
    obtain ⟨_, _, h6 | ⟨g', cap', cur, e', _, hg, hn', _, hs, ht⟩⟩ := h
    · rw [e] at h6; cases h6.1
    · rw [e] at e'
      simp only [Value.slice.injEq, Option.some.injEq, Addr.mk.injEq, and_true] at e'
      obtain ⟨rfl, _, rfl⟩ := e'
      refine ⟨cur, hg, by omega, fun j hj => ?_⟩
      have hj' : j < (zs ++ [z]).length := by omega
      have h7 : (cur.toList.take ((zs ++ [z]).length * 1))[j]? = ((zs ++ [z]).map b8)[j]? := by rw [ht]
      rw [Nat.mul_one, List.getElem?_take, if_pos hj', List.getElem?_map, List.getElem?_eq_getElem hj'] at h7
      exact ⟨(((zs ++ [z])[j]'hj' : Nat) : Int), by simpa [b8] using h7⟩
theorem bytes_pre {w : World} {ao : Option Addr} {xs ys : List Nat} (h : BytesAt w ao (xs ++ ys)) : BytesAt w ao xs := by
  refine ⟨fun z hz => h.1 z (by simp [hz]), ?_⟩
  rcases h.2 with h0 | ⟨g, off, rfl, hc⟩
  · exact .inl (List.append_eq_nil_iff.1 h0).1
  · refine .inr ⟨g, off, rfl, fun j hj => ?_⟩
    have := hc j (by simp; omega)
    rw [List.getD_eq_getElem?_getD, List.getElem?_append_left hj, ← List.getD_eq_getElem?_getD] at this
    exact this

set_option maxRecDepth 100000 in
set_option maxHeartbeats 4000000 in
theorem lawBDec (w : World) (a2 : Option Addr) (n2 c2 : Nat) (zs : List Nat) (hz : BytesAt w a2 zs) (hn2 : n2 = zs.length) (hnil : a2 = none → c2 = 0) (hlc : n2 ≤ c2) (hcm : c2 ≤ maxLen) (hs : n2 ≤ 140737488351232) :
    Calls Try.prog 4 #[.slice a2 n2 c2] w fun e w' => e = .returned (.bool true) ∧ Below w.heap.size w w' := by
  have HZ : Hid (∀ W, Below w.heap.size w W → BytesAt W a2 zs) := fun W hW => hz.kept hW
  have HZ0 : Hid (∀ z ∈ zs, z < 256) := hz.1
  have HN2 : Hid (n2 = zs.length ∧ (a2 = none → c2 = 0) ∧ n2 ≤ c2 ∧ c2 ≤ maxLen) := ⟨hn2, hnil, hlc, hcm⟩
  clear hz hn2 hnil hlc hcm
  go_enter Try.func4, Try.ntmps4
  have HSrc : Hid (BytesAt (w.alloc (.cells (cellsU8 []) 5)) a2 zs) := HZ.out _ ((Below.refl _ _).alloc (Nat.le_refl _) _)
  have HBl : Hid (Below w.heap.size w (w.alloc (.cells (cellsU8 []) 5))) := (Below.refl _ _).alloc (Nat.le_refl _) _
  go_wp2_with (first | (
      at_builtin
      refine wpList_append_bytes rfl _ _ rfl w.heap.size (.slice a6 n2 c6) zs rfl (HO6.out.alloc _) (some ⟨w6.heap.size, 0, none⟩) 1 1 [165] rfl rfl (OwnB.made (w := w6) (L := [165]) (by simp) (by simp [maxLen]) (Nat.le_refl _)).bytes.1 (by simp) (by rw [← HN2.out.1]; simp only [List.length_cons, List.length_nil]; omega) (by have := HB6.out.size; simp only [World.size_alloc]; omega) ?_
      intro v7 w7 ho7 hg7
      obtain ⟨g, c7, rfl, hg0, hg1, hc7, hm7, hy7, hr7⟩ := own_some ho7 HN2.out.1
      have hcc7 : n2 ≤ c7 := (by omega)
      have HO7 : Hid (w.heap.size ≤ g ∧ g < w7.heap.size ∧ n2 + 1 ≤ c7 ∧ BytesAt w7 (some ⟨g, 0, none⟩) (zs ++ [165]) ∧ R8 w7 g (n2 + 1)) := ⟨hg0, hg1, hc7, hy7, hr7⟩
      have HB7 : Hid (Below w.heap.size w w7) := (HB6.out.alloc HB6.out.size _).trans (grown_below hg7 (fun q hq => (HO6.out.2.lt q hq).1) (by have := HB6.out.size; simp only [World.size_alloc]; omega))
      clear ho7 hg7 hg0 hg1 hc7 hm7 hy7 hr7) | (
      at_builtin
      refine wpList_append_bytes rfl _ _ rfl w.heap.size _ [] rfl (OwnB.made (w := w) (L := []) (by simp) (by simp) (Nat.le_refl _)) a2 n2 c2 zs rfl HN2.out.1 HSrc.out HN2.out.2.1 (by rw [← HN2.out.1]; simp only [List.length_nil]; omega) (by simp only [World.size_alloc]; omega) ?_
      intro v6 w6 ho6 hg6
      rw [List.nil_append] at ho6
      have HB6 : Hid (Below w.heap.size w w6) := HBl.out.trans (grown_below hg6 (fun q hq => by cases hq; exact Nat.le_refl _) (by simp only [World.size_alloc]; omega))
      obtain ⟨a6, c6, e6, hy6, hn6, hl6⟩ := ho6.slice
      rw [← HN2.out.1] at e6
      subst e6
      have HO6 : Hid (OwnB w6 w.heap.size (.slice a6 n2 c6) zs) := ho6
      clear ho6 hg6 hy6 hn6 hl6))
  clear HSrc HBl HO6 HB6
  refine (dec_it w7 (some ⟨g, 0, none⟩) n2 c7 zs HN2.out.1 (bytes_pre HO7.out.2.2.2.1) (by omega)).mono ?_
  rintro e w8 ⟨vb, q, x, rfl, hd8, hb8⟩
  have HD8 : Hid (DecIt w7 w8 zs vb q x) := hd8
  have HB8 : Hid (Below w7.heap.size w7 w8) := hb8
  have HW8 : Hid (Below w.heap.size w w8) := HB7.out.trans (hb8.mono HB7.out.size)
  clear hd8 hb8
  go_wp2_with fail
  refine (ref_it w8 a2 n2 c2 zs (HZ.out _ HW8.out) HN2.out.1 (by omega) HN2.out.2.2.1 HN2.out.2.2.2 HN2.out.2.1).mono ?_
  rintro e w9 ⟨vw, q', x', rfl, hr9, hb9⟩
  obtain ⟨rfl, rfl⟩ := it_eq HD8.out hr9
  have HR9 : Hid (RefIt w8 w9 zs vw q' x') := hr9
  have HD9 : Hid (DecIt w7 w9 zs vb q' x') := HD8.out.kept hb9
  have HB9 : Hid (Below w7.heap.size w7 w9) := HB8.out.trans (hb9.mono HB8.out.size)
  have HW9 : Hid (Below w.heap.size w w9) := HW8.out.trans (hb9.mono HW8.out.size)
  have H89 : Hid (w8.heap.size ≤ w9.heap.size ∧ w7.heap.size ≤ w8.heap.size) := ⟨hb9.size, HB8.out.size⟩
  obtain ⟨y, A, R, V, lo, hvb, hbt⟩ := HD8.out.bt HZ0.out HB8.out.size
  have HBt : Hid (BT w7 w8 w8.heap.size y A R V lo) := hbt
  have HBt9 : Hid (BT w7 w9 w8.heap.size y A R V lo) := hbt.same2 (fun G _ h2 => hb9.block G h2)
  subst hvb
  clear hr9 hb9 hbt HD8 HB8 HW8 HBt
  go_wp2_with fail
  refine (same_it HZ0.out HD9.out HR9.out).mono ?_
  rintro e w10 ⟨rfl, hg10⟩
  have HG10 : Hid (Below w9.heap.size w9 w10) := hg10.below
  have HB10 : Hid (Below w7.heap.size w7 w10) := HB9.out.trans (hg10.below.mono HB9.out.size)
  have HW10 : Hid (Below w.heap.size w w10) := HW9.out.trans (hg10.below.mono HW9.out.size)
  clear hg10
  go_wp2_with fail
  refine (num_b _ _).mono ?_
  rintro e w11 ⟨rfl, hw11⟩
  have hw11' := hw11.symm
  subst hw11'
  clear hw11
  go_wp2_with fail
  refine (same_any w10 (some ⟨g, 0, none⟩) a2 c7 c2 n2 n2 zs zs HN2.out.1 HN2.out.1 (bytes_pre (HO7.out.2.2.2.1.kept HB10.out)) (HZ.out _ HW10.out) (by rw [← HN2.out.1]; unfold maxLen; omega)).mono ?_
  rintro e w12 ⟨rfl, nq, hq⟩
  simp only [decide_true]
  have HD12 : Hid (Below w10.heap.size w10 w12) := by rw [hq]; exact ((Grew.refl w10).drewN nq).below
  clear hq
  have HB12 : Hid (Below w7.heap.size w7 w12) := HB10.out.trans (HD12.out.mono HB10.out.size)
  have HW12 : Hid (Below w.heap.size w w12) := HW10.out.trans (HD12.out.mono HW10.out.size)
  have H912 : Hid (Below w9.heap.size w9 w12) := HG10.out.trans (HD12.out.mono HG10.out.size)
  have k5 : w12.cell? ⟨g, n2, none⟩ = some (.int .u8 165) := by
    have hy := HO7.out.2.2.2.1.kept HB12.out
    rcases hy.2 with h0 | ⟨g', off, e, hc⟩
    · simp at h0
    · simp only [Option.some.injEq, Addr.mk.injEq, and_true] at e
      obtain ⟨rfl, rfl⟩ := e
      have := hc n2 (by simp [← HN2.out.1])
      rw [Nat.zero_add, List.getD_eq_getElem?_getD, List.getElem?_append_right (by rw [← HN2.out.1]; exact Nat.le_refl _)] at this
      rw [this]
      simp [← HN2.out.1]
  have hn21 : n2 < n2 + 1 := by omega
  clear HB9 HB10 HW9 HW10 HG10 HD12
  go_wp2_with fail
  clear k5 hn21
  have HR12 : Hid (R8 w12 g (n2 + 1)) := HO7.out.2.2.2.2.same (HB12.out.block g HO7.out.2.1)
  go_loopw [10] (fun i wr => ∃ k : Nat, k ≤ n2 + 1 ∧ i = .int .i64 (k : Int) ∧ Hid (R8 wr g (n2 + 1)) ∧ Hid (Mid g (g + 1) w12 wr)) (fun i _ => n2 + 1 - (intOf i).toNat)
  case atStart => exact ⟨0, Nat.zero_le _, rfl, HR12, Mid.refl _ _ _⟩
  case round =>
    clear HR12
    obtain ⟨k, hk, rfl, HR, HM⟩ := hrel
    by_cases hlt : k < n2 + 1
    · have hlt' : (k : Int) < (n2 : Int) + 1 := by omega
      obtain ⟨z, k1⟩ := HR.out.cell hlt
      have k2 := HR.out.frozen k
      have HR3 : Hid (∀ y : Int, R8 (wr.setCell ⟨g, k, none⟩ (.int .u8 y)) g (n2 + 1)) := fun y => HR.out.set k y
      have HM3 : Hid (∀ y : Int, Mid g (g + 1) w12 (wr.setCell ⟨g, k, none⟩ (.int .u8 y))) := fun y => HM.out.set g k _ (Nat.le_refl _) (by omega)
      clear HR HM
      go_wp2_with fail
      exact ⟨⟨k + 1, by omega, by go_num, HR3.out _, HM3.out _⟩, by simp [intOf]; omega⟩
    · obtain rfl : k = n2 + 1 := by omega
      have hlt' : ¬ ((n2 : Int) + 1 < (n2 : Int) + 1) := by omega
      have hgw := HO7.out
      have HS13 : Hid (∀ G, w7.heap.size ≤ G → G < w9.heap.size → wr.heap[G]? = w9.heap[G]?) := fun G h1 h2 => (HM.out.block G (by have := H912.out.size; omega) (.inr (by omega))).trans (H912.out.block G h2)
      have HZ13 : Hid (w9.heap.size ≤ wr.heap.size) := Nat.le_trans H912.out.size HM.out.size
      have HW13 : Hid (Below w.heap.size w wr) := by
        have h1 := HM.out.below (by have := HW12.out.size; have := HB12.out.size; omega)
        exact HW12.out.trans (h1.mono hgw.1)
      have HD13 : Hid (DecIt w7 wr zs (itv y) q' x') := HD9.out.same HS13.out HZ13.out
      have HR13 : Hid (RefIt w8 wr zs vw q' x') := HR9.out.same (fun G h1 h2 => HS13.out G (by have := H89.out.2; omega) h2)
      have HBt13 : Hid (BT w7 wr w8.heap.size y A R V lo) := HBt9.out.same2 (fun G h1 h2 => HS13.out G h1 (by have := H89.out.1; omega))
      clear HR HM hgw HD9 HR9 HBt9 HS13 H912 HW12 HB12 hlt hk
      generalize wr = w13 at *
      have HSrc : Hid (BytesAt (w13.alloc (.cells (cellsU8 []) 5)) a2 zs) := HZ.out _ (HW13.out.alloc HW13.out.size _)
      have HBl : Hid (Below w13.heap.size w13 (w13.alloc (.cells (cellsU8 []) 5))) := (Below.refl _ _).alloc (Nat.le_refl _) _
      go_wp2_with (
        at_builtin
        refine wpList_append_bytes rfl _ _ rfl w13.heap.size _ [] rfl (OwnB.made (w := w13) (L := []) (by simp) (by simp) (Nat.le_refl _)) a2 n2 c2 zs rfl HN2.out.1 HSrc.out HN2.out.2.1 (by rw [← HN2.out.1]; simp only [List.length_nil]; omega) (by simp only [World.size_alloc]; omega) ?_
        intro v14 w14 ho14 hg14
        rw [List.nil_append] at ho14
        have HB14 : Hid (Below w13.heap.size w13 w14) := HBl.out.trans (grown_below hg14 (fun q hq => by cases hq; exact Nat.le_refl _) (by simp only [World.size_alloc]; omega))
        obtain ⟨a14, c14, e14, hy14, hn14, hl14⟩ := ho14.slice
        rw [← HN2.out.1] at e14
        subst e14
        have HY14 : Hid (BytesAt w14 a14 zs) := hy14
        clear ho14 hg14 hy14 hn14 hl14)
      refine (dec_it w14 a14 n2 c14 zs HN2.out.1 HY14.out (by omega)).mono ?_
      rintro e w15 ⟨vc, q2, x2, rfl, hd15, hb15⟩
      have H1315 : Hid (Below w13.heap.size w13 w15) := HB14.out.trans (hb15.mono HB14.out.size)
      have HD15 : Hid (DecIt w14 w15 zs vc q2 x2) := hd15
      obtain ⟨y2, A2, R2, V2, lo2, hvc, hbt2⟩ := hd15.bt HZ0.out hb15.size
      subst hvc
      have HBt2 : Hid (BT w14 w15 w15.heap.size y2 A2 R2 V2 lo2) := hbt2
      have HW15 : Hid (Below w.heap.size w w15) := HW13.out.trans (H1315.out.mono HW13.out.size)
      have HDb15 : Hid (DecIt w7 w15 zs (itv y) q' x') := HD13.out.kept H1315.out
      have HR15 : Hid (RefIt w8 w15 zs vw q' x') := HR13.out.kept H1315.out
      have HBt15 : Hid (BT w7 w15 w8.heap.size y A R V lo) := HBt13.out.same2 (fun G _ h2 => H1315.out.block G (by have := HZ13.out; have := H89.out.1; omega))
      have HSz : Hid (w8.heap.size ≤ w14.heap.size ∧ w.heap.size ≤ w7.heap.size ∧ w7.heap.size ≤ w14.heap.size ∧ w14.heap.size ≤ w15.heap.size) := by
        have h1 := HB14.out.size; have h2 := HZ13.out; have h3 := H89.out; have h4 := HB7.out.size; have h5 := hb15.size
        exact ⟨by omega, by omega, by omega, by omega⟩
      clear hd15 hb15 hbt2 HSrc HBl HY14 HB14 HD13 HR13 HBt13 HW13 H1315 HZ13 HB7 HO7 H89
      go_wp2_with fail
      refine (same_it HZ0.out HDb15.out HR15.out).mono ?_
      rintro e w16 ⟨rfl, hg16⟩
      have H16 : Hid (Below w15.heap.size w15 w16) := hg16.below
      clear hg16
      go_wp2_with fail
      refine (same_it HZ0.out (HD15.out.kept H16.out) (HR15.out.kept H16.out)).mono ?_
      rintro e w17 ⟨rfl, hg17⟩
      have H17 : Hid (Below w15.heap.size w15 w17) := H16.out.trans (hg17.below.mono H16.out.size)
      have HW17 : Hid (Below w.heap.size w w17) := HW15.out.trans (H17.out.mono HW15.out.size)
      have HBa : Hid (BT w7 w17 w8.heap.size y A R V lo) := HBt15.out.same2 (fun G _ h2 => H17.out.block G (by have := HSz.out; omega))
      have HBb : Hid (BT w14 w17 w15.heap.size y2 A2 R2 V2 lo2) := HBt2.out.same2 (fun G _ h2 => H17.out.block G h2)
      have HSz2 : Hid (w15.heap.size ≤ w17.heap.size) := H17.out.size
      clear hg17 H16 H17 HDb15 HR15 HD15 HBt15 HBt2 HW15
      -- the shelf
      have HB18 : Hid (Below w17.heap.size w17 (w17.alloc (.cells #[.slice none 0 0, .slice none 0 0, .slice none 0 0, .slice none 0 0, .slice none 0 0] 41))) := (Below.refl _ _).alloc (Nat.le_refl _) _
      have HS18 : Hid (SH w (w17.alloc (.cells #[.slice none 0 0, .slice none 0 0, .slice none 0 0, .slice none 0 0, .slice none 0 0] 41)) w17.heap.size none 0 none 0 none 0 [] [] []) :=
        ⟨heap_alloc_new _ _ rfl, OwnS.nil _ _ _, OwnS.nil _ _ _, OwnS.nil _ _ _, (fun x hx => by cases hx), (fun x hx => by cases hx), (fun x hx => by cases hx), List.Pairwise.nil, List.Pairwise.nil, List.Pairwise.nil, (fun x hx => by cases hx), (fun x hx => by cases hx), (fun x hx => by cases hx), by simp, HW17.out.alloc HW17.out.size _, HW17.out.size⟩
      go_upto_region 14 with fail
      generalize w17.alloc (.cells #[.slice none 0 0, .slice none 0 0, .slice none 0 0, .slice none 0 0, .slice none 0 0] 41) = W18 at *
      obtain ⟨B, hB⟩ : ∃ B, B = w17.heap.size := ⟨_, rfl⟩
      rw [← hB] at HS18 HB18 ⊢
      have HBe : Hid (B = w17.heap.size) := hB
      clear hB
      have HBa18 : Hid (BT w W18 B y A R V lo) := (HBa.out.adapt HSz.out.2.1 (by have := HSz.out; have := HSz2.out; have := HBe.out; omega)).kept HB18.out
      have HBb18 : Hid (BT w W18 B y2 A2 R2 V2 lo2) := (HBb.out.adapt (by have := HSz.out; omega) (by have := HSz2.out; have := HBe.out; omega)).kept HB18.out
      go_wp2_with fail
      refine (shBatch_any w W18 B none 0 none 0 none 0 [] [] [] y A R V lo HS18.out HBa18.out (fun y hy => by cases hy) (fun y hy => by cases hy) (fun y hy => by cases hy) (by simp)).mono ?_
      rintro e w19 ⟨rfl, hb19, aB, cB, aK, cK, aI, cI, hs19⟩
      have HS19 : Hid (SH w w19 B aB cB aK cK aI cI [y] (ksN R V y.2) (isN A y.2)) := hs19
      have HBb19 : Hid (BT w w19 B y2 A2 R2 V2 lo2) := HBb18.out.kept hb19
      clear hs19 hb19 HS18 HBa18 HBb18 HB18
      go_wp2_with fail
      refine (shBatch_any w w19 B aB cB aK cK aI cI [y] (ksN R V y.2) (isN A y.2) y2 A2 R2 V2 lo2 HS19.out HBb19.out ?_ ?_ ?_ ?_).mono ?_
      · intro z hz a b e1 e2
        simp only [List.mem_singleton] at hz
        subst hz
        have h1 := (HBa.out.rx.lo e1).2
        have h2 := (HBb.out.rx.lo e2).1
        have := HSz.out
        omega
      · intro z hz a e
        have h1 := HBa.out.undK z hz a e
        have h2 := HBb.out.l0
        have := HSz.out
        omega
      · intro z hz a e
        have h1 := HBa.out.undI z hz a e
        have h2 := HBb.out.l0
        have := HSz.out
        omega
      · have h1 := HBa.out.lx
        rw [ksN_len, isN_len]
        simp only [List.length_singleton]
        omega
      · rintro e w20 ⟨rfl, hb20, bB, dB, bK, dK, bI, dI, hs20⟩
        have HS20 : Hid (SH w w20 B bB dB bK dK bI dI ([y] ++ [y2]) (ksN R V y.2 ++ ksN R2 V2 y2.2) (isN A y.2 ++ isN A2 y2.2)) := hs20
        clear hs20 hb20 HS19 HBb19
        go_wp2_with fail
        refine (apart_any w w20 B bB dB bK dK bI dI _ _ _ HS20.out).mono ?_
        rintro e w21 ⟨rfl, hb21⟩
        have HF : Hid (Below w.heap.size w w21) := hb21
        clear hb21 HS20
        go_wp2
        go_ret
        exact ⟨rfl, HF.out⟩
end Go.Proofs.Ytlilaicgmdbhcaa.Kk
/-
  FROM THE READING OF A []byte ARGUMENT (OR FIELD) TO ITS BYTES.
-/
namespace Go.Proofs.Ytlilaicgmdbhcaa
open Go.ChangeShapes Go.WideShapes Go.ChangeAt Go.RowKit

theorem bytesAt_of_ints {W : World} {a : Addr} {len cap : Nat} {zs : List Int} (hl : len ≤ cap) (hz : zs.length = cap)
    (hcell : ∀ i, i < zs.length → W.cell? (a.add i) = some (.int .u8 (zs.getD i 0))) (hwf : ∀ n ∈ zs, (Lit.int .u8 n).wf = true) :
    BytesAt W (some a) ((zs.take len).map Int.toNat) := by
  have hb : ∀ n ∈ zs, 0 ≤ n ∧ n ≤ 255 := fun n hn => bounds_u8 (hwf n hn)
  refine ⟨?_, ?_⟩
  · intro z hz'
    obtain ⟨n, hn, rfl⟩ := List.mem_map.1 hz'
    have := hb n (List.mem_of_mem_take hn)
    omega
  · by_cases h0 : zs = []
    · left; simp [h0]
    · right
      obtain ⟨b, off, rfl, hc⟩ := ints_at hcell (by cases zs with | nil => exact absurd rfl h0 | cons z zs => simp)
      refine ⟨b, off, rfl, fun j hj => ?_⟩
      have hj' : j < len := by simp at hj; omega
      rw [hc j (by omega)]
      have hjz : j < zs.length := by omega
      have := hb zs[j] (List.getElem_mem hjz)
      simp [List.getD_eq_getElem?_getD, hj', List.getElem?_eq_getElem hjz]
      omega

/-- what the reading of a slice of bytes gives -/
theorem bytes_of_trod {H : Type} {enc : TypeId × Value → H} {W : World} {fuel : Nat} {cs : List Value} {y : DataW H × List MemPlace}
    (hf : DataW.trod enc Try.prog W 0 (fun _ => true) true fuel 25 cs = some y) :
    ∃ (a : Option Addr) (len cap : Nat) (zs : List Nat), cs = [.slice a len cap] ∧ len = zs.length ∧ BytesAt W a zs ∧ (a = none → cap = 0) ∧ len ≤ cap ∧ cap ≤ maxLen ∧
      (len = 0 ∨ ∃ elems spare, y.1 = .slice elems spare ∧ len ≤ elems.length + spare.length) := by
  rcases open_ints Try.underlying25 Try.underlying5 (by kernel_rfl) hf with ⟨hcs, _⟩ | ⟨x, l, c, zs, hcs, _, hl, hm, hz, hx, hcell, hwz⟩
  · exact ⟨none, 0, 0, [], hcs, rfl, ⟨by simp, .inl rfl⟩, fun _ => rfl, Nat.le_refl _, Nat.zero_le _, .inl rfl⟩
  · have hz' : zs.length = c := by simpa using hz
    refine ⟨some x, l, c, (zs.take l).map Int.toNat, hcs, by simp; omega, bytesAt_of_ints hl hz' hcell hwz, by simp, hl, hm, .inr ⟨_, _, by rw [hx], ?_⟩⟩
    simp only [lits, List.length_map, List.length_take, List.length_drop]
    omega
/-- .. and that its reach is bounded: the j-th of what is weighed -/
theorem len_of_sized {H : Type} {ts : List TypeId} {ds : List (DataW H)} {j len : Nat} {d : DataW H} (h : (DataW.weightsEach Try.prog ts ds).all (· ≤ reachBytes) = true) (ht : ts[j]? = some 25) (hd : ds[j]? = some d)
    (hx : len = 0 ∨ ∃ elems spare, d = .slice elems spare ∧ len ≤ elems.length + spare.length) : len ≤ 140737488351232 := by
  rcases hx with h0 | ⟨elems, spare, rfl, hl⟩
  · omega
  · have h1 := sized_slice h ht hd Try.underlying25
    rw [bytes8] at h1
    simp only [reachBytes] at h1
    omega
/-- the weights of a struct's fields -/
theorem sized_struct {H : Type} {P : Program} {ts : List TypeId} {ds parts : List (DataW H)} {j : Nat} {t : TypeId} {fs : Array Field} (h : (DataW.weightsEach P ts ds).all (· ≤ reachBytes) = true) (ht : ts[j]? = some t) (hd : ds[j]? = some (.agg parts))
    (hu : P.underlying t = some (.struct fs)) : (DataW.weightsEach P (fs.toList.map (·.type)) parts).all (· ≤ reachBytes) = true := by
  rw [List.all_eq_true] at *
  intro n hn
  exact h n (DataW.weights_mem_each ht hd n (by simpa [DataW.weights, hu] using hn))

end Go.Proofs.Ytlilaicgmdbhcaa
