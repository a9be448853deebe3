import Derived.Test.YtbmohlkcmhhpgaaGreatJBkWgt
import Derived.Test.YtbmohlkcmhhpgaaGreatJBkShortH
import Derived.Test.YtbmohlkcmhhpgaaGreatJBkDColl
/-
  BookShort: MORE MATHEMATICS.
-/
namespace Go.Proofs.YtbmohlkcmhhpgaaGreat
open Go.RowKit Go.Sort

theorem seenN_same {d d2 : List Int} (h : ∀ x, x ∈ d ↔ x ∈ d2) (b nx : Int) : seenN d b nx = seenN d2 b nx := by
  unfold seenN
  rw [Bool.eq_iff_iff, List.any_eq_true, List.any_eq_true]
  exact ⟨fun ⟨x, hx, h1⟩ => ⟨x, (h x).1 hx, h1⟩, fun ⟨x, hx, h1⟩ => ⟨x, (h x).2 hx, h1⟩⟩
theorem keepR_d {d d2 : List Int} (h : ∀ x, x ∈ d ↔ x ∈ d2) {k : K} : ∀ (l : List V4) (nb : Int), keepR d k l nb = keepR d2 k l nb
  | [], _ => rfl
  | v :: l, nb => by simp only [keepR, seenN_same h, keepR_d h l]
theorem kpt_d {d d2 : List Int} (h : ∀ x, x ∈ d ↔ x ∈ d2) (l : List V4) : kpt d l = kpt d2 l := by
  unfold kpt
  split
  · rfl
  · rw [keepR_d h]
theorem CollN.d {d d2 : List Int} {all all' : List V4} (h : ∀ x, x ∈ d ↔ x ∈ d2) (hc : CollN d all all') : CollN d2 all all' := ⟨hc.1, fun k => by rw [← kpt_d h]; exact hc.2 k⟩
theorem sum_le {S : List K} {f : K → Nat} {m : Nat} (h : ∀ k ∈ S, f k ≤ m) : (S.map f).sum ≤ S.length * m := by
  induction S with
  | nil => simp
  | cons k S ih =>
    have h1 := ih (fun x hx => h x (by simp [hx]))
    have h2 := h k (by simp)
    rw [List.map_cons, List.sum_cons, List.length_cons, Nat.add_mul]
    omega
theorem sum_take {S : List K} {f : K → Nat} {i : Nat} (h : i < S.length) : ((S.take (i + 1)).map f).sum = ((S.take i).map f).sum + f S[i] := by
  rw [List.take_succ_eq_append_getElem h, List.map_append, List.sum_append_nat]
  simp
/-- what is behind a collect -/
structure Shrt (d : List Int) (p : Nat) (nw : List K) (all : List V4) : Prop where
  nd : (sortK nw).Nodup
  len : (sortK nw).length = nw.length
  mem : ∀ v ∈ all, v.1 ∈ sortK nw
  one : ∀ k ∈ sortK nw, 1 ≤ (ofV k all).length ∧ (ofV k all).length ≤ p + 1
  kin : ∀ k ∈ sortK nw, KIn k
theorem Shrt.total {d : List Int} {p : Nat} {nw : List K} {all : List V4} (h : Shrt d p nw all) : ((sortK nw).map (fun k => (ofV k all).length)).sum = all.length := sum_ofV h.nd all h.mem
theorem Shrt.room {d : List Int} {p : Nat} {nw : List K} {all : List V4} (h : Shrt d p nw all) : all.length ≤ nw.length * (p + 1) := by
  rw [← h.total, ← h.len]
  exact sum_le (fun k hk => (h.one k hk).2)
theorem shrt_of {w : World} {B Mp Mc Mn : Nat} {cap la fl : Int} {pins : List (Int × Int)} {all all' : List V4} {nw : List K} {d : List Int} (h : BA w B Mp Mc Mn cap la fl pins all' nw) (hc : CollN d all all') (hd : d.Perm (pins.map Prod.fst)) : Shrt d pins.length nw all' := by
  have hnd : nw.Nodup := by have := h.mn.kn; simpa [List.map_map, Function.comp_def] using this
  have hik : ∀ k ∈ nw, isKey k = true := fun k hk => by
    obtain ⟨v, hv, rfl⟩ := (h.nwa k).1 hk
    exact h.ik v hv
  have hr := sortK_rise hik
  have hnS : (sortK nw).Nodup := hr.2.imp (fun {a b} hab e => by subst e; rw [lt_irrefl] at hab; cases hab)
  have hl : (sortK nw).length = nw.length := by
    have h1 := nodup_len (sortK nw) nw hnS (fun x hx => (sortK_mem nw x).1 hx)
    have h2 := nodup_len nw (sortK nw) hnd (fun x hx => (sortK_mem nw x).2 hx)
    omega
  refine ⟨hnS, hl, fun v hv => (sortK_mem nw _).2 ((h.nwa _).2 ⟨v, hv, rfl⟩), fun k hk => ?_, fun k hk => ?_⟩
  · have hk' := (sortK_mem nw k).1 hk
    obtain ⟨v, hv, rfl⟩ := (h.nwa k).1 hk'
    constructor
    · have : v ∈ ofV v.1 all' := by simp [ofV, hv]
      exact List.length_pos_of_mem this
    · rw [hc.2]
      have h1 := kpt_len (d := d) (k := v.1) (l := ofV v.1 all) (fun u hu => by simpa [ofV] using (List.mem_filter.1 hu).2)
      have h2 := hd.length_eq
      simp at h2
      omega
  · exact h.mn.dm (k, pv (nf f0 all' k)) (List.mem_map.2 ⟨k, (sortK_mem nw k).1 hk, rfl⟩)
theorem adm_fits {cap la : Int} {all : List V4} {L : List (List K)} {m p : Nat} (hw : 0 ≤ wgtE L) (hr : (all.length : Int) ≤ (m : Int) * ((p : Int) + 1)) (hf : (m : Int) * ((p : Int) + 1) + wgtE L ≤ cap) (hl : la ≠ 1099511627776) : admE cap la all L = 0 := by
  by_cases hF : formN L = 0
  · have e := wgtE_ok hF
    unfold admE
    rw [if_neg (by simp [hF]), if_neg hl, if_neg (by omega)]
  · have := wgtE_bad rfl hF
    omega
end Go.Proofs.YtbmohlkcmhhpgaaGreat
/-
  TWO BOOKS THAT TELL THE SAME: MATHEMATICS.
-/
namespace Go.Proofs.YtbmohlkcmhhpgaaGreat
open Go.RowKit Go.Sort

structure Eqv (s t : Bs) : Prop where
  la : s.la = t.la
  fl : s.fl = t.fl
  pn : ∀ n, fpn s.pins n = fpn t.pins n
  al : ∀ k, ofV k s.all = ofV k t.all
theorem Eqv.refl (s : Bs) : Eqv s s := ⟨rfl, rfl, fun _ => rfl, fun _ => rfl⟩
theorem Eqv.symm {s t : Bs} (h : Eqv s t) : Eqv t s := ⟨h.la.symm, h.fl.symm, fun n => (h.pn n).symm, fun k => (h.al k).symm⟩
theorem fpn_mem (pins : List (Int × Int)) (n : Int) : n ∈ pins.map Prod.fst ↔ (fpn pins n).isSome = true := by
  constructor
  · intro h
    cases hf : fpn pins n with
    | none =>
      obtain ⟨p, hp, rfl⟩ := List.mem_map.1 h
      exact absurd rfl (fpn_none hf p hp)
    | some c => rfl
  · intro h
    obtain ⟨c, hc⟩ := Option.isSome_iff_exists.1 h
    obtain ⟨A, C, rfl⟩ := fpn_some hc
    simp
/-- what is found is what stands -/
theorem fpn_at {A C : List (Int × Int)} {n c : Int} (h : ((A ++ (n, c) :: C).map Prod.fst).Nodup) : fpn (A ++ (n, c) :: C) n = some c := by
  have hA : ∀ p ∈ A, p.1 ≠ n := fun p hp e => by
    rw [List.map_append, List.map_cons, List.nodup_append] at h
    exact h.2.2 p.1 (List.mem_map.2 ⟨p, hp, rfl⟩) n (by simp) e
  unfold fpn
  rw [List.find?_append, List.find?_eq_none.2 (fun p hp => by simpa using hA p hp)]
  simp
theorem fpn_oth {A C : List (Int × Int)} {n c m : Int} (h : m ≠ n) : fpn (A ++ (n, c) :: C) m = fpn (A ++ C) m := by
  unfold fpn
  rw [List.find?_append, List.find?_append, List.find?_cons_of_neg (by simpa using fun e => h e.symm)]
theorem fpn_absent {l : List (Int × Int)} {n : Int} (h : n ∉ l.map Prod.fst) : fpn l n = none := by
  cases hf : fpn l n with
  | none => rfl
  | some c => exact absurd ((fpn_mem l n).2 (by rw [hf]; rfl)) h
theorem Pinned.fpn {p p' : List (Int × Int)} {n : Int} (h : Pinned p p' n) (hn : (p.map Prod.fst).Nodup) (m : Int) : fpn p' m = if m = n then some ((fpn p n).getD 0 + 1) else fpn p m := by
  rcases h with ⟨h0, rfl⟩ | ⟨A, c, C, rfl, rfl⟩
  · by_cases e : m = n
    · subst e
      rw [if_pos rfl, h0]
      have := fpn_at (A := p) (C := []) (n := m) (c := 1) (by
        rw [List.map_append, List.nodup_append]
        refine ⟨hn, by simp, fun a ha b hb e => ?_⟩
        simp at hb
        obtain ⟨q, hq, rfl⟩ := List.mem_map.1 ha
        exact fpn_none h0 q hq (e.trans hb))
      rw [this]
      rfl
    · rw [if_neg e, fpn_oth e, List.append_nil]
  · by_cases e : m = n
    · subst e
      rw [if_pos rfl, fpn_at hn, fpn_at (by simpa using hn)]
      rfl
    · rw [if_neg e, fpn_oth e, fpn_oth e]
theorem Unpinned.fpn {p p' : List (Int × Int)} {n : Int} (h : Unpinned p p' n) (hn : (p.map Prod.fst).Nodup) (m : Int) : fpn p' m = if m = n then (if (fpn p n) = some 1 then none else some ((fpn p n).getD 0 - 1)) else fpn p m := by
  obtain ⟨A, c, C, rfl, h⟩ := h
  have h1 := fpn_at hn
  by_cases e : m = n
  · subst e
    rw [if_pos rfl, h1]
    rcases h with ⟨rfl, rfl⟩ | ⟨hc, rfl⟩
    · rw [if_pos rfl]
      refine fpn_absent ?_
      rw [List.map_append, List.map_cons, List.nodup_append] at hn
      rw [List.map_append, List.mem_append]
      rintro (h | h)
      · exact hn.2.2 _ h _ (by simp) rfl
      · exact (List.nodup_cons.1 hn.2.1).1 h
    · rw [if_neg (by simpa using hc), fpn_at (by simpa using hn)]
      rfl
  · rw [if_neg e, fpn_oth e]
    rcases h with ⟨_, rfl⟩ | ⟨_, rfl⟩
    · rfl
    · rw [fpn_oth e]
theorem ofV_count (v : V4) (l : List V4) : List.count v l = List.count v (ofV v.1 l) := by
  unfold ofV
  rw [List.count_filter (by simp)]
theorem Eqv.perm {s t : Bs} (h : Eqv s t) : s.all.Perm t.all := by
  rw [List.perm_iff_count]
  intro v
  rw [ofV_count, ofV_count v t.all, h.al]
theorem Eqv.len {s t : Bs} (h : Eqv s t) : s.all.length = t.all.length := h.perm.length_eq
theorem Eqv.pmem {s t : Bs} (h : Eqv s t) (n : Int) : n ∈ s.pins.map Prod.fst ↔ n ∈ t.pins.map Prod.fst := by rw [fpn_mem, fpn_mem, h.pn]
theorem Eqv.plen {s t : Bs} (h : Eqv s t) (hs : (s.pins.map Prod.fst).Nodup) (ht : (t.pins.map Prod.fst).Nodup) : s.pins.length = t.pins.length := by
  have := ((List.perm_ext_iff_of_nodup hs ht).2 h.pmem).length_eq
  simpa using this
/-- lists that rise and hold the same are one -/
theorem rise_ints : ∀ {l m : List Int}, l.Pairwise (· < ·) → m.Pairwise (· < ·) → (∀ x, x ∈ l ↔ x ∈ m) → l = m
  | [], [], _, _, _ => rfl
  | [], y :: m, _, _, h => absurd ((h y).2 (by simp)) (by simp)
  | x :: l, [], _, _, h => absurd ((h x).1 (by simp)) (by simp)
  | x :: l, y :: m, hl, hm, h => by
    rw [List.pairwise_cons] at hl hm
    have hxy : x = y := by
      rcases List.mem_cons.1 ((h x).1 (by simp)) with e | e
      · exact e
      · rcases List.mem_cons.1 ((h y).2 (by simp)) with e' | e'
        · exact e'.symm
        · have := hm.1 x e
          have := hl.1 y e'
          omega
    subst hxy
    rw [rise_ints hl.2 hm.2 (fun z => ?_)]
    constructor
    · intro hz
      rcases List.mem_cons.1 ((h z).1 (by simp [hz])) with e | e
      · have := hl.1 z hz; omega
      · exact e
    · intro hz
      rcases List.mem_cons.1 ((h z).2 (by simp [hz])) with e | e
      · have := hm.1 z hz; omega
      · exact e
theorem BA.pnd {w : World} {B Mp Mc Mn : Nat} {cap la fl : Int} {pins : List (Int × Int)} {all : List V4} {nw : List K} (h : BA w B Mp Mc Mn cap la fl pins all nw) : (pins.map Prod.fst).Nodup := by
  have := h.mp.kn
  simpa [List.map_map, Function.comp_def] using this
theorem BA.nwk {w : World} {B Mp Mc Mn : Nat} {cap la fl : Int} {pins : List (Int × Int)} {all : List V4} {nw : List K} (h : BA w B Mp Mc Mn cap la fl pins all nw) : ∀ k ∈ nw, isKey k = true := fun k hk => by
  obtain ⟨v, hv, rfl⟩ := (h.nwa k).1 hk
  exact h.ik v hv
theorem ofV_mem {k : K} {l : List V4} : (∃ v ∈ l, v.1 = k) ↔ ofV k l ≠ [] := by
  constructor
  · rintro ⟨v, hv, rfl⟩ e
    have : v ∈ ofV v.1 l := List.mem_filter.2 ⟨hv, by simp⟩
    rw [e] at this
    cases this
  · intro h
    cases hl : ofV k l with
    | nil => exact absurd hl h
    | cons v r =>
      have : v ∈ ofV k l := by rw [hl]; simp
      obtain ⟨h1, h2⟩ := List.mem_filter.1 this
      exact ⟨v, h1, by simpa using h2⟩
/-- the keys are the same -/
theorem keys_same {w : World} {B Mp Mc Mn B2 Mp2 Mc2 Mn2 : Nat} {cap cap2 la fl la2 fl2 : Int} {pins pins2 : List (Int × Int)} {all all2 : List V4} {nw nw2 : List K} (h : BA w B Mp Mc Mn cap la fl pins all nw) (h2 : BA w B2 Mp2 Mc2 Mn2 cap2 la2 fl2 pins2 all2 nw2) (he : ∀ k, ofV k all = ofV k all2) : sortK nw = sortK nw2 := by
  refine rise_unique (sortK_rise h.nwk) (sortK_rise h2.nwk) (fun k => ?_)
  rw [sortK_mem, sortK_mem, h.nwa, h2.nwa, ofV_mem, ofV_mem, he]
theorem ofV_append' (k : K) (A C : List V4) : ofV k (A ++ C) = ofV k A ++ ofV k C := by simp [ofV]
/-- one call on both -/
theorem Eqv.call {cap : Int} {o : Oc} {s t s' t' : Bs} {r r' : Bool} (h : Eqv s t) (hs : (s.pins.map Prod.fst).Nodup) (ht : (t.pins.map Prod.fst).Nodup) (h1 : DoR cap o s s' r) (h2 : DoR cap o t t' r') : r = r' ∧ Eqv s' t' := by
  have hadm : admE cap s.la s.all o.L = admE cap t.la t.all o.L := by unfold admE; rw [h.la, h.len]
  have hpin : pinE s.la s.fl s.pins o.m = pinE t.la t.fl t.pins o.m := by unfold pinE; rw [h.la, h.fl, h.pn, h.plen hs ht]
  cases h1 with
  | admNo k e =>
    cases h2 with
    | admNo _ _ => exact ⟨rfl, h⟩
    | admYes _ e2 => exact absurd (hadm.trans e2) e
    | pinNo k2 _ => omega
    | pinYes _ k2 _ _ => omega
    | unpNo k2 _ => omega
    | unpYes _ k2 _ _ => omega
    | coll _ _ k2 => omega
    | oth k2 _ _ _ => omega
  | admYes k e =>
    cases h2 with
    | admNo _ e2 => exact absurd (hadm.symm.trans e) e2
    | admYes _ e2 => exact ⟨rfl, by show s.la + 1 = t.la + 1; rw [h.la], h.fl, h.pn, fun k => by show ofV k (s.all ++ _) = ofV k (t.all ++ _); rw [ofV_append', ofV_append', h.al, h.la]⟩
    | pinNo k2 _ => omega
    | pinYes _ k2 _ _ => omega
    | unpNo k2 _ => omega
    | unpYes _ k2 _ _ => omega
    | coll _ _ k2 => omega
    | oth k2 _ _ _ => omega
  | pinNo k e =>
    cases h2 with
    | admNo k2 _ => omega
    | admYes k2 _ => omega
    | pinNo _ _ => exact ⟨rfl, h⟩
    | pinYes _ _ e2 _ => exact absurd (hpin.trans e2) e
    | unpNo k2 _ => omega
    | unpYes _ k2 _ _ => omega
    | coll _ _ k2 => omega
    | oth _ k2 _ _ => omega
  | pinYes p1 k e hp =>
    cases h2 with
    | admNo k2 _ => omega
    | admYes k2 _ => omega
    | pinNo _ e2 => exact absurd (hpin.symm.trans e) e2
    | pinYes p2 _ e2 hp2 => exact ⟨rfl, h.la, h.fl, fun n => by show Go.Proofs.YtbmohlkcmhhpgaaGreat.fpn p1 n = Go.Proofs.YtbmohlkcmhhpgaaGreat.fpn p2 n; rw [hp.fpn hs, hp2.fpn ht, h.pn, h.pn], h.al⟩
    | unpNo k2 _ => omega
    | unpYes _ k2 _ _ => omega
    | coll _ _ k2 => omega
    | oth _ k2 _ _ => omega
  | unpNo k e =>
    cases h2 with
    | admNo k2 _ => omega
    | admYes k2 _ => omega
    | pinNo k2 _ => omega
    | pinYes _ k2 _ _ => omega
    | unpNo _ _ => exact ⟨rfl, h⟩
    | unpYes _ _ e2 _ => rw [← h.pn, e] at e2; cases e2
    | coll _ _ k2 => omega
    | oth _ _ k2 _ => omega
  | unpYes p1 k e hp =>
    cases h2 with
    | admNo k2 _ => omega
    | admYes k2 _ => omega
    | pinNo k2 _ => omega
    | pinYes _ k2 _ _ => omega
    | unpNo _ e2 => rw [h.pn, e2] at e; cases e
    | unpYes p2 _ e2 hp2 => exact ⟨rfl, h.la, h.fl, fun n => by show Go.Proofs.YtbmohlkcmhhpgaaGreat.fpn p1 n = Go.Proofs.YtbmohlkcmhhpgaaGreat.fpn p2 n; rw [hp.fpn hs, hp2.fpn ht, h.pn, h.pn], h.al⟩
    | coll _ _ k2 => omega
    | oth _ _ k2 _ => omega
  | coll d a1 k hd1 hd2 hc =>
    cases h2 with
    | admNo k2 _ => omega
    | admYes k2 _ => omega
    | pinNo k2 _ => omega
    | pinYes _ k2 _ _ => omega
    | unpNo k2 _ => omega
    | unpYes _ k2 _ _ => omega
    | coll d2 a2 _ he1 he2 hc2 =>
      refine ⟨rfl, h.la, h.la, h.pn, fun k => ?_⟩
      show ofV k a1 = ofV k a2
      rw [hc.2, hc2.2, h.al]
      exact kpt_d (fun x => by rw [hd2.mem_iff, he2.mem_iff, h.pmem]) _
    | oth _ _ _ k2 => omega
  | oth k0 k1 k2 k3 =>
    cases h2 with
    | admNo k _ => omega
    | admYes k _ => omega
    | pinNo k _ => omega
    | pinYes _ k _ _ => omega
    | unpNo k _ => omega
    | unpYes _ k _ _ => omega
    | coll _ _ k => omega
    | oth _ _ _ _ => exact ⟨rfl, h⟩
theorem DoR.same {cap : Int} {o : Oc} {s s' : Bs} (h : DoR cap o s s' true) : s' = s := by
  cases h <;> rfl
theorem DoR.pin {cap : Int} {o : Oc} {s s' : Bs} {r : Bool} (h : DoR cap o s s' r) (hk : o.kind = 1) : r = true ↔ pinE s.la s.fl s.pins o.m ≠ 0 := by
  cases h with
  | pinNo _ e => exact ⟨fun _ => e, fun _ => rfl⟩
  | pinYes _ _ e _ => exact ⟨fun h => Bool.noConfusion h, fun h => absurd e h⟩
  | admNo k _ => omega
  | admYes k _ => omega
  | unpNo k _ => omega
  | unpYes _ k _ _ => omega
  | coll _ _ k => omega
  | oth _ k _ _ => omega
theorem DoR.unp {cap : Int} {o : Oc} {s s' : Bs} {r : Bool} (h : DoR cap o s s' r) (hk : o.kind = 2) : r = true ↔ o.m ∉ s.pins.map Prod.fst := by
  rw [fpn_mem]
  cases h with
  | unpNo _ e => rw [e]; simp
  | unpYes _ _ e _ => rw [e]; simp
  | admNo k _ => omega
  | admYes k _ => omega
  | pinNo k _ => omega
  | pinYes _ k _ _ => omega
  | coll _ _ k => omega
  | oth _ _ k _ => omega
end Go.Proofs.YtbmohlkcmhhpgaaGreat
/-
  THE DOCUMENT'S PINS: MEMORY AND MATHEMATICS.
-/
namespace Go.Proofs.YtbmohlkcmhhpgaaGreat
open Go.RowKit Go.Sort

theorem rowG {w : World} {base : Nat} {T : TypeId} {sz n : Nat} {v : Value} {xs : List Value} (h : w.ownsRow base T sz v n xs) (hn : 0 < n) : ∃ g cap, v = .slice (some ⟨g, 0, none⟩) n cap ∧ base ≤ g := by
  obtain ⟨_, ⟨_, h0⟩ | ⟨g, cp, cur, rfl, hg, _⟩⟩ := h
  · omega
  · exact ⟨g, cp, rfl, hg⟩
theorem pns_set : ∀ (l : List (Int × Int)) (i : Nat) (h : i < l.length) (x : Int), pns (l.set i (l[i].1, x)) = (pns l).set (i * 2 + 1) (.int .i64 x)
  | [], i, h, _ => by simp at h
  | p :: l, 0, _, x => by simp [pns]
  | p :: l, i + 1, h, x => by
    have := pns_set l i (by simpa using h) x
    rw [show (i + 1) * 2 + 1 = i * 2 + 1 + 1 + 1 by omega]
    simp only [List.set_cons_succ, pns, List.getElem_cons_succ, this]
section
variable {w w' : World} {base R : Nat} {room last low : Int} {av pv : Value} {all : List V4} {pins : List (Int × Int)}
/-- a count is stored -/
theorem RB.count (h : RB w base R room last low av pv all pins) {i : Nat} (hi : i < pins.length) (x : Int) : ∃ g cap, pv = .slice (some ⟨g, 0, none⟩) pins.length cap ∧ RB (w.setCell ⟨g, i * 2 + 1, none⟩ (.int .i64 x)) base R room last low av pv all (pins.set i (pins[i].1, x)) ∧ w.frozen? ⟨g, i * 2 + 1, none⟩ = false ∧ w.cell? ⟨g, i * 2, none⟩ = some (.int .i64 pins[i].1) ∧ w.cell? ⟨g, i * 2 + 1, none⟩ = some (.int .i64 pins[i].2) ∧ SR R av pv g := by
  obtain ⟨g, cap, hpv, hg⟩ := rowG h.rp (by omega)
  have hrp := h.rp
  rw [hpv] at hrp
  obtain ⟨h1, h2⟩ := World.ownsRow.stored hrp (i * 2 + 1) (.int .i64 x)
  obtain ⟨b, off, e, c0, c1⟩ := (rowCs hrp).2.1.pin hi
  cases e
  rw [Nat.zero_add] at c0 c1
  have hs : ∀ k, k ≠ g → (w.setCell ⟨g, i * 2 + 1, none⟩ (.int .i64 x)).heap[k]? = w.heap[k]? := fun k hk => heap_setCell_other _ _ _ _ (fun e => hk e)
  have hgp : pv.ownBlock = some g := by rw [hpv]; rfl
  refine ⟨g, cap, hpv, ⟨(hs R (fun e => h.neP (by rw [hgp, e]))).trans h.bk, rowSame h.ra (fun k hk => hs k (fun e => h.neAP hk (by rw [hgp, e]))), ?_, h.le⟩, World.ownsRow.frozenAt hrp _, c0, c1, .inr (.inr hgp)⟩
  rw [hpv, List.length_set, pns_set pins i hi x]
  exact h1
end
theorem rise_nodup {l : List (Int × Int)} (h : (l.map Prod.fst).Pairwise (· < ·)) : (l.map Prod.fst).Nodup := h.imp (fun h => by omega)
theorem fpn_ix {l : List (Int × Int)} (h : (l.map Prod.fst).Pairwise (· < ·)) {i : Nat} (hi : i < l.length) : fpn l l[i].1 = some l[i].2 := by
  have e : l = l.take i ++ l[i] :: l.drop (i + 1) := by rw [← List.drop_eq_getElem_cons hi, List.take_append_drop]
  have h2 := rise_nodup h
  rw [e] at h2
  have h3 := fpn_at (A := l.take i) (C := l.drop (i + 1)) (n := l[i].1) (c := l[i].2) h2
  rw [← e] at h3
  exact h3
theorem fpn_no {l : List (Int × Int)} {n : Int} (h : ∀ j (hj : j < l.length), l[j].1 ≠ n) : fpn l n = none := fpn_absent (fun h1 => by
  obtain ⟨p, hp, e⟩ := List.mem_map.1 h1
  obtain ⟨j, hj, rfl⟩ := List.getElem_of_mem hp
  exact h j hj e)
/-- one pin more -/
def PinD (pins pins' : List (Int × Int)) (n : Int) : Prop := (pins'.map Prod.fst).Pairwise (· < ·) ∧ ∀ m, fpn pins' m = if m = n then some ((fpn pins n).getD 0 + 1) else fpn pins m
def UnpD (pins pins' : List (Int × Int)) (n : Int) : Prop := (pins'.map Prod.fst).Pairwise (· < ·) ∧ ∀ m, fpn pins' m = if m = n then (if (fpn pins n) = some 1 then none else some ((fpn pins n).getD 0 - 1)) else fpn pins m
theorem set_fst {l : List (Int × Int)} {i : Nat} (hi : i < l.length) (x : Int) : (l.set i (l[i].1, x)).map Prod.fst = l.map Prod.fst := by
  rw [List.map_set]
  simp only
  have e : l[i].1 = (l.map Prod.fst)[i]'(by simpa using hi) := by simp
  rw [e, List.set_getElem_self]
theorem set_fpn {l : List (Int × Int)} (h : (l.map Prod.fst).Pairwise (· < ·)) {i : Nat} (hi : i < l.length) (x m : Int) : fpn (l.set i (l[i].1, x)) m = if m = l[i].1 then some x else fpn l m := by
  have e : l = l.take i ++ l[i] :: l.drop (i + 1) := by rw [← List.drop_eq_getElem_cons hi, List.take_append_drop]
  have e2 : l.set i (l[i].1, x) = l.take i ++ (l[i].1, x) :: l.drop (i + 1) := by
    rw [List.set_eq_take_append_cons_drop, if_pos hi]
  have h2 : ((l.set i (l[i].1, x)).map Prod.fst).Nodup := by rw [set_fst hi]; exact rise_nodup h
  by_cases hm : m = l[i].1
  · rw [if_pos hm, hm]
    rw [e2] at h2 ⊢
    exact fpn_at h2
  · rw [if_neg hm, e2, fpn_oth hm]
    have h3 := fpn_oth (A := l.take i) (C := l.drop (i + 1)) (n := l[i].1) (c := l[i].2) hm
    rw [← h3]
    congr 1
    exact e.symm
theorem pinD_set {l : List (Int × Int)} (h : (l.map Prod.fst).Pairwise (· < ·)) {i : Nat} (hi : i < l.length) {n : Int} (hn : l[i].1 = n) : PinD l (l.set i (l[i].1, l[i].2 + 1)) n := by
  subst hn
  refine ⟨by rw [set_fst hi]; exact h, fun m => ?_⟩
  rw [set_fpn h hi, fpn_ix h hi]
  rfl
theorem unpD_set {l : List (Int × Int)} (h : (l.map Prod.fst).Pairwise (· < ·)) {i : Nat} (hi : i < l.length) {n : Int} (hn : l[i].1 = n) (hc : l[i].2 ≠ 1) : UnpD l (l.set i (l[i].1, l[i].2 - 1)) n := by
  subst hn
  refine ⟨by rw [set_fst hi]; exact h, fun m => ?_⟩
  rw [set_fpn h hi, fpn_ix h hi, if_neg (show ¬ some l[i].2 = some 1 from fun e => hc (Option.some.inj e))]
  rfl
/-- where a new one comes -/
def insP (n : Int) : List (Int × Int) → List (Int × Int)
  | [] => [(n, 1)]
  | p :: l => if n < p.1 then (n, 1) :: p :: l else p :: insP n l
theorem insP_split (n : Int) : ∀ l : List (Int × Int), ∃ A C, l = A ++ C ∧ insP n l = A ++ (n, 1) :: C ∧ (∀ p ∈ A, p.1 ≤ n) ∧ ∀ p ∈ C.head?, n < p.1
  | [] => ⟨[], [], rfl, rfl, by simp, by simp⟩
  | p :: l => by
    by_cases hp : n < p.1
    · exact ⟨[], p :: l, rfl, by simp [insP, hp], by simp, by simpa using hp⟩
    · obtain ⟨A, C, h1, h2, h3, h4⟩ := insP_split n l
      refine ⟨p :: A, C, by rw [h1]; rfl, by simp only [insP, if_neg hp, h2]; rfl, fun q hq => ?_, h4⟩
      rcases List.mem_cons.1 hq with rfl | hq
      · omega
      · exact h3 q hq
theorem pinD_ins {l : List (Int × Int)} (h : (l.map Prod.fst).Pairwise (· < ·)) {n : Int} (hn : fpn l n = none) : PinD l (insP n l) n := by
  obtain ⟨A, C, h1, h2, h3, h4⟩ := insP_split n l
  have hno := fpn_none hn
  rw [h1, List.map_append, List.pairwise_append] at h
  have hC : ∀ p ∈ C, n < p.1 := by
    cases C with
    | nil => simp
    | cons c C =>
      intro p hp
      have h5 := h4 c (by simp)
      rcases List.mem_cons.1 hp with rfl | hp
      · exact h5
      · have h6 := (List.pairwise_cons.1 (by simpa using h.2.1)).1 p.1 (List.mem_map.2 ⟨p, hp, rfl⟩)
        omega
  have hA : ∀ p ∈ A, p.1 < n := fun p hp => by
    have := h3 p hp
    have := hno p (by rw [h1]; simp [hp])
    omega
  have hr : ((insP n l).map Prod.fst).Pairwise (· < ·) := by
    rw [h2, List.map_append, List.map_cons, List.pairwise_append]
    refine ⟨h.1, List.pairwise_cons.2 ⟨fun x hx => ?_, h.2.1⟩, fun x hx y hy => ?_⟩
    · obtain ⟨p, hp, rfl⟩ := List.mem_map.1 hx
      exact hC p hp
    · obtain ⟨p, hp, rfl⟩ := List.mem_map.1 hx
      have h7 := hA p hp
      rcases List.mem_cons.1 hy with rfl | hy
      · exact h7
      · obtain ⟨q, hq, rfl⟩ := List.mem_map.1 hy
        have := hC q hq
        omega
  refine ⟨hr, fun m => ?_⟩
  have hnd := rise_nodup hr
  rw [h2] at hnd ⊢
  by_cases hm : m = n
  · rw [if_pos hm, hm, fpn_at hnd, hn]
    rfl
  · rw [if_neg hm, fpn_oth hm, h1]
theorem unpD_erase {l : List (Int × Int)} (h : (l.map Prod.fst).Pairwise (· < ·)) {i : Nat} (hi : i < l.length) {n x : Int} (hn : l[i].1 = n) (hc : l[i].2 = 1) : UnpD l ((l.set i (l[i].1, x)).eraseIdx i) n := by
  subst hn
  have e : l = l.take i ++ l[i] :: l.drop (i + 1) := by rw [← List.drop_eq_getElem_cons hi, List.take_append_drop]
  have e2 : (l.set i (l[i].1, x)).eraseIdx i = l.take i ++ l.drop (i + 1) := by
    rw [List.set_eq_take_append_cons_drop, if_pos hi, List.eraseIdx_append_of_length_le (by simp; omega)]
    simp [List.length_take, Nat.min_eq_left (Nat.le_of_lt hi)]
  have hsub : (l.take i ++ l.drop (i + 1)).Sublist l := by
    conv => rhs; rw [e]
    exact List.Sublist.append_left (List.sublist_cons_self _ _) _
  have hnd := rise_nodup h
  refine ⟨by rw [e2]; exact h.sublist (hsub.map _), fun m => ?_⟩
  rw [e2, fpn_ix h hi, hc, if_pos rfl]
  have h9 := hnd
  rw [e] at h9
  by_cases hm : m = l[i].1
  · rw [if_pos hm, hm]
    refine fpn_absent ?_
    rw [List.map_append, List.map_cons, List.nodup_append] at h9
    rw [List.map_append, List.mem_append]
    rintro (h1 | h1)
    · exact h9.2.2 _ h1 _ (by simp) rfl
    · exact (List.nodup_cons.1 h9.2.1).1 h1
  · rw [if_neg hm]
    have h3 := fpn_oth (A := l.take i) (C := l.drop (i + 1)) (n := l[i].1) (c := l[i].2) hm
    rw [← h3]
    congr 1
    exact e.symm
theorem erase_step {l : List (Int × Int)} {i k : Nat} (hk : k < l.length) : (l.take (k + 1)).eraseIdx i = if k = i then (l.take k).eraseIdx i else (l.take k).eraseIdx i ++ [l[k]] := by
  have hl : (l.take k).length = k := by simp; omega
  rw [List.take_succ_eq_append_getElem hk]
  by_cases h : i < k
  · rw [List.eraseIdx_append_of_lt_length (by omega), if_neg (by omega)]
  · rw [List.eraseIdx_append_of_length_le (by omega), hl]
    by_cases hki : k = i
    · subst hki
      rw [if_pos rfl, Nat.sub_self, List.eraseIdx_of_length_le (l := l.take k) (by omega)]
      rw [List.eraseIdx_cons_zero, List.append_nil]
    · rw [if_neg hki, List.eraseIdx_of_length_le (l := [l[k]]) (by simp; omega), List.eraseIdx_of_length_le (l := l.take k) (by omega)]
end Go.Proofs.YtbmohlkcmhhpgaaGreat
