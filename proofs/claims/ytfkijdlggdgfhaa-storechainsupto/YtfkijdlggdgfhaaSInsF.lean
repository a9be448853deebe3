/-
  Insert.
-/
import Derived.Test.YtfkijdlggdgfhaaSAft2
import Derived.Deep.RegionHeld3
namespace Go.Proofs.Ytfkijdlggdgfhaa
open Go.RowKit Go.Sort

/-- the version that is put in -/
abbrev xV (b : Nat) (last : Int) (k : K) (ba ix : Int) : Vr := ⟨b, last + 1, k, ba, ix, false, false, 0⟩
theorem insE_b (cap : Int) (vs : List Vr) (a b : Nat) (last : Int) (k : K) (ba ix : Int) : insE cap vs (xV a last k ba ix) = insE cap vs (xV b last k ba ix) := rfl
def InsPost (w : World) (S V D M L P : Nat) (hf : Value) (cap last : Int) (vs : List Vr) (es : List En) (R : K → Nat × Nat × Nat) (k : K) (ba ix : Int) (e : Ending) (w' : World) : Prop :=
  (insE cap vs (xV 0 last k ba ix) ≠ 0 ∧ e = .returned (.tuple #[.int .i64 0, .int .i64 (insE cap vs (xV 0 last k ba ix))]) ∧ Below w.heap.size w w') ∨
  (insE cap vs (xV 0 last k ba ix) = 0 ∧ e = .returned (.tuple #[.int .i64 (last + 1), .int .i64 0]) ∧ ∃ b es' R', w.heap.size ≤ b ∧ SA w' S V D M L P hf cap (last + 1) (vs ++ [xV b last k ba ix]) es' R' ∧ Fr (Fs S V D M L vs es R) w w' ∧ ∀ k', Fs S V D M L (vs ++ [xV b last k ba ix]) es' R' k' → Fs S V D M L vs es R k' ∨ w.heap.size ≤ k')
/-- chainFor, for Insert: the chain, and what Put leaves behind add -/
def ForIt (w : World) (S V D M L P : Nat) (hf : Value) (vs : List Vr) (es : List En) (R : K → Nat × Nat × Nat) (x : Vr) (E : Int) (e : Ending) (w2 : World) : Prop :=
  Below w.heap.size w w2 ∧ ((E ≠ 0 ∧ e = .returned (.tuple #[.pointer none, .int .i64 E])) ∨
    (E = 0 ∧ ∃ cb ao cc, e = .returned (.tuple #[ptr cb, .int .i64 0]) ∧ w2.heap[cb]? = some (.cells #[.slice ao (ofK x.k vs).length cc] 100 (0, 0)) ∧
      ((ao = none ∧ cc = 0 ∧ (ofK x.k vs).map Vr.b = []) ∨ ∃ g off, ao = some ⟨g, off, none⟩ ∧ RwV w2 g off cc ((ofK x.k vs).map Vr.b)) ∧
      ∀ w3 g off cc', Add w2 w3 cb x.b ao ((ofK x.k vs).map Vr.b) g off cc' → (∀ k, (k = S ∨ k + 1 = x.b ∨ k = D) → k < w2.heap.size → w3.heap[k]? = w2.heap[k]?) ∧ Calls Try.prog 38 #[ptr D, kv x.k, ptr cb] w3.drew fun e w4 => (∃ va vb, e = .returned (.tuple #[va, .bool vb])) ∧ Fr (Ft M L es) w3 w4 ∧ ∃ es' e1, Aft w w4 S V D M L P hf vs es es' R x e1 g off cc'))
theorem for_it (w : World) (S V D M L P f : Nat) (hok : PartOK f hash) (cap last : Int) (vs : List Vr) (es : List En) (R : K → Nat × Nat × Nat) (x : Vr) (h : SA w S V D M L P (hfn f) cap last vs es R) (hx : w.heap[x.b]? = some (.cells (cellsV x) 82 (0, 0))) (hxb : ∀ k, Fs S V D M L vs es R k → k + 1 < x.b) (hk : KIn x.k) :
    Calls Try.prog 36 #[ptr S, ptr x.b] w fun e w2 => ForIt w S V D M L P (hfn f) vs es R x (insE cap vs x) e w2 := by
  refine (chainFor_any w S V D M L P (hfn f) cap last vs es R x.b x h hx hk).mono ?_
  have hxb' : ∀ k, Fs S V D M L vs es R k → x.b ≠ k := fun k hF e => by have := hxb k hF; omega
  have hlen : es.length ≤ 140737488355328 := by
    have := h.el; have := h.lt; omega
  rintro e w2 ⟨hb2, ⟨hne, rfl⟩ | ⟨hE0, ⟨e0, hf0, rfl⟩ | ⟨hf0, c, rfl, hc, hcx⟩⟩⟩
  · exact ⟨hb2, .inl ⟨hne, rfl⟩⟩
  · obtain ⟨he0, hk0⟩ := fd_some hf0
    have h2 := h.kept hb2
    have hch := h2.ch e0 he0
    have hrw := h2.rwv he0
    rw [hk0] at hch hrw
    refine ⟨hb2, .inr ⟨hE0, e0.v, some ⟨(R x.k).1, (R x.k).2.1, none⟩, (R x.k).2.2, rfl, hch, .inr ⟨_, _, rfl, hrw⟩, fun w3 g off cc' ha => ⟨fun k hk1 hk2 => ?_, ?_⟩⟩⟩
    · refine ha.fr.block k hk2 (fun e => ?_)
      obtain ⟨⟨o1, _⟩, ⟨o4, _⟩, _⟩ := h2.oth_ne he0
      have d1 := h2.dict_ne (.inl rfl)
      have t1 : Fs S V D M L vs es R e0.v := .inr (.inr (.inr (.inr (.inl ⟨e0, he0, rfl⟩))))
      have t2 : Fs S V D M L vs es R (R e0.k).1 := .inr (.inr (.inr (.inr (.inr ⟨e0, he0, rfl⟩))))
      have q1 := hxb _ t1
      have q2 := hxb _ t2
      rw [hk0] at q2 o4
      rcases e with rfl | e
      · rcases hk1 with e | e | e
        · exact o1 e.symm
        · omega
        · exact d1.1 e0 he0 e
      · simp at e
        subst e
        rcases hk1 with e | e | e
        · exact o4 e.symm
        · omega
        · exact d1.2.1 e0 he0 (by rw [hk0]; exact e)
    · have hd3 : DA w3 D M L (hfn f) P es := h2.da.same (fun k hk' => ha.fr.block k (h2.da.lt hk') (fun e => by
        have d1 := h2.dict_ne hk'
        rcases e with e | e
        · exact d1.1 e0 he0 e.symm
        · simp at e
          exact d1.2.1 e0 he0 (by rw [hk0]; exact e)))
      have hd3' : DA w3.drew D M L (hfn f) P es := hd3.same (fun _ _ => rfl)
      refine (put_old w3.drew D M L P (hfn f) es x.k e0.v hd3' hk trivial e0 hf0).mono ?_
      rintro e w4 ⟨rfl, hd4, hfr⟩
      have hfr' : Fr (Ft M L es) w3 w4 := ⟨hfr.os, hfr.tape, hfr.output, hfr.size, hfr.block⟩
      exact ⟨⟨_, _, rfl⟩, hfr', es, e0, h.aft_old x hx hxb' hf0 hb2 ha hd4 hfr'⟩
  · have h2 := h.kept hb2
    have hof := h.none_of hf0
    refine ⟨hb2, .inr ⟨hE0, c, none, 0, rfl, by rw [hof]; exact hcx, .inl ⟨rfl, rfl, by rw [hof]; rfl⟩, fun w3 g off cc' ha => ⟨fun k hk1 hk2 => ?_, ?_⟩⟩⟩
    · refine ha.fr.block k hk2 (fun e => ?_)
      rcases e with rfl | e
      · have hbl := blk_lt hx
        rcases hk1 with e | e | e
        · have := blk_lt h.st; omega
        · omega
        · have := h.da.lt (.inl e); omega
      · cases e
    · have hd3 : DA w3 D M L (hfn f) P es := h2.da.same (fun k hk' => ha.fr.block k (h2.da.lt hk') (fun e => by
        rcases e with e | e
        · have := h.da.lt hk'; omega
        · cases e))
      have hd3' : DA w3.drew D M L (hfn f) P es := hd3.same (fun _ _ => rfl)
      refine (put_new w3.drew D M L P f hash hok es x.k c hd3' hk trivial hf0 hlen).mono ?_
      rintro e w4 ⟨E, rfl, hd4, hE, hfr⟩
      have hfr' : Fr (Ft M L es) w3 w4 := ⟨hfr.os, hfr.tape, hfr.output, hfr.size, hfr.block⟩
      exact ⟨⟨_, _, rfl⟩, hfr', _, _, h.aft_new x hx hxb' hb2 rfl hc (Nat.le_trans (Nat.le_trans hb2.size ha.fr.size) hE) ha hd4 hfr'⟩
end Go.Proofs.Ytfkijdlggdgfhaa
