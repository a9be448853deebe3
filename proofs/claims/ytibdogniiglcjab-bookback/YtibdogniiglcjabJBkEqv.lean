import Derived.Test.YtibdogniiglcjabJBkShortM
import Derived.Test.YtibdogniiglcjabJBkLent
import Derived.Test.YtibdogniiglcjabJBkShortH
import Derived.Test.YtibdogniiglcjabJBkVers
import Derived.Test.YtibdogniiglcjabKLst
import Derived.Deep.RegionHeld3
import Derived.Test.YtibdogniiglcjabJBkWgt
import Derived.Test.YtibdogniiglcjabBkCopy
import Derived.Test.YtibdogniiglcjabJBkRestH
import Derived.BigRegion
import Derived.Test.YtibdogniiglcjabKList
import Derived.SizedLaws
import Derived.Lib.SmallJoins
import Derived.Deep.Slices
import Derived.ChangeOld
import Derived.ProofKit
import Derived.OpenShut
/-
  TWO BOOKS THAT TELL THE SAME: MATHEMATICS.
-/
namespace Go.Proofs.Ytibdogniiglcjab
open Go.RowKit Go.Sort

structure Eqv (s t : Bs) : Prop where
  la : s.la = t.la
  fl : s.fl = t.fl
  pn : ∀ n, fpn s.pins n = fpn t.pins n
  al : ∀ k, ofV k s.all = ofV k t.all
theorem Eqv.refl (s : Bs) : Eqv s s := ⟨rfl, rfl, fun _ => rfl, fun _ => rfl⟩
theorem Eqv.symm {s t : Bs} (h : Eqv s t) : Eqv t s := ⟨h.la.symm, h.fl.symm, fun n => (h.pn n).symm, fun k => (h.al k).symm⟩
theorem fpn_mem (pins : List (Int × Int)) (n : Int) : n ∈ pins.map Prod.fst ↔ (fpn pins n).isSome = true := by
  constructor
  · intro h
    cases hf : fpn pins n with
    | none =>
      obtain ⟨p, hp, rfl⟩ := List.mem_map.1 h
      exact absurd rfl (fpn_none hf p hp)
    | some c => rfl
  · intro h
    obtain ⟨c, hc⟩ := Option.isSome_iff_exists.1 h
    obtain ⟨A, C, rfl⟩ := fpn_some hc
    simp
/-- what is found is what stands -/
theorem fpn_at {A C : List (Int × Int)} {n c : Int} (h : ((A ++ (n, c) :: C).map Prod.fst).Nodup) : fpn (A ++ (n, c) :: C) n = some c := by
  have hA : ∀ p ∈ A, p.1 ≠ n := fun p hp e => by
    rw [List.map_append, List.map_cons, List.nodup_append] at h
    exact h.2.2 p.1 (List.mem_map.2 ⟨p, hp, rfl⟩) n (by simp) e
  unfold fpn
  rw [List.find?_append, List.find?_eq_none.2 (fun p hp => by simpa using hA p hp)]
  simp
theorem fpn_oth {A C : List (Int × Int)} {n c m : Int} (h : m ≠ n) : fpn (A ++ (n, c) :: C) m = fpn (A ++ C) m := by
  unfold fpn
  rw [List.find?_append, List.find?_append, List.find?_cons_of_neg (by simpa using fun e => h e.symm)]
theorem fpn_absent {l : List (Int × Int)} {n : Int} (h : n ∉ l.map Prod.fst) : fpn l n = none := by
  cases hf : fpn l n with
  | none => rfl
  | some c => exact absurd ((fpn_mem l n).2 (by rw [hf]; rfl)) h
theorem Pinned.fpn {p p' : List (Int × Int)} {n : Int} (h : Pinned p p' n) (hn : (p.map Prod.fst).Nodup) (m : Int) : fpn p' m = if m = n then some ((fpn p n).getD 0 + 1) else fpn p m := by
  rcases h with ⟨h0, rfl⟩ | ⟨A, c, C, rfl, rfl⟩
  · by_cases e : m = n
    · subst e
      rw [if_pos rfl, h0]
      have := fpn_at (A := p) (C := []) (n := m) (c := 1) (by
        rw [List.map_append, List.nodup_append]
        refine ⟨hn, by simp, fun a ha b hb e => ?_⟩
        simp at hb
        obtain ⟨q, hq, rfl⟩ := List.mem_map.1 ha
        exact fpn_none h0 q hq (e.trans hb))
      rw [this]
      rfl
    · rw [if_neg e, fpn_oth e, List.append_nil]
  · by_cases e : m = n
    · subst e
      rw [if_pos rfl, fpn_at hn, fpn_at (by simpa using hn)]
      rfl
    · rw [if_neg e, fpn_oth e, fpn_oth e]
theorem Unpinned.fpn {p p' : List (Int × Int)} {n : Int} (h : Unpinned p p' n) (hn : (p.map Prod.fst).Nodup) (m : Int) : fpn p' m = if m = n then (if (fpn p n) = some 1 then none else some ((fpn p n).getD 0 - 1)) else fpn p m := by
  obtain ⟨A, c, C, rfl, h⟩ := h
  have h1 := fpn_at hn
  by_cases e : m = n
  · subst e
    rw [if_pos rfl, h1]
    rcases h with ⟨rfl, rfl⟩ | ⟨hc, rfl⟩
    · rw [if_pos rfl]
      refine fpn_absent ?_
      rw [List.map_append, List.map_cons, List.nodup_append] at hn
      rw [List.map_append, List.mem_append]
      rintro (h | h)
      · exact hn.2.2 _ h _ (by simp) rfl
      · exact (List.nodup_cons.1 hn.2.1).1 h
    · rw [if_neg (by simpa using hc), fpn_at (by simpa using hn)]
      rfl
  · rw [if_neg e, fpn_oth e]
    rcases h with ⟨_, rfl⟩ | ⟨_, rfl⟩
    · rfl
    · rw [fpn_oth e]
theorem ofV_count (v : V4) (l : List V4) : List.count v l = List.count v (ofV v.1 l) := by
  unfold ofV
  rw [List.count_filter (by simp)]
theorem Eqv.perm {s t : Bs} (h : Eqv s t) : s.all.Perm t.all := by
  rw [List.perm_iff_count]
  intro v
  rw [ofV_count, ofV_count v t.all, h.al]
theorem Eqv.len {s t : Bs} (h : Eqv s t) : s.all.length = t.all.length := h.perm.length_eq
theorem Eqv.pmem {s t : Bs} (h : Eqv s t) (n : Int) : n ∈ s.pins.map Prod.fst ↔ n ∈ t.pins.map Prod.fst := by rw [fpn_mem, fpn_mem, h.pn]
theorem Eqv.plen {s t : Bs} (h : Eqv s t) (hs : (s.pins.map Prod.fst).Nodup) (ht : (t.pins.map Prod.fst).Nodup) : s.pins.length = t.pins.length := by
  have := ((List.perm_ext_iff_of_nodup hs ht).2 h.pmem).length_eq
  simpa using this
/-- lists that rise and hold the same are one -/
theorem rise_ints : ∀ {l m : List Int}, l.Pairwise (· < ·) → m.Pairwise (· < ·) → (∀ x, x ∈ l ↔ x ∈ m) → l = m
  | [], [], _, _, _ => rfl
  | [], y :: m, _, _, h => absurd ((h y).2 (by simp)) (by simp)
  | x :: l, [], _, _, h => absurd ((h x).1 (by simp)) (by simp)
  | x :: l, y :: m, hl, hm, h => by
    rw [List.pairwise_cons] at hl hm
    have hxy : x = y := by
      rcases List.mem_cons.1 ((h x).1 (by simp)) with e | e
      · exact e
      · rcases List.mem_cons.1 ((h y).2 (by simp)) with e' | e'
        · exact e'.symm
        · have := hm.1 x e
          have := hl.1 y e'
          omega
    subst hxy
    rw [rise_ints hl.2 hm.2 (fun z => ?_)]
    constructor
    · intro hz
      rcases List.mem_cons.1 ((h z).1 (by simp [hz])) with e | e
      · have := hl.1 z hz; omega
      · exact e
    · intro hz
      rcases List.mem_cons.1 ((h z).2 (by simp [hz])) with e | e
      · have := hm.1 z hz; omega
      · exact e
theorem BA.pnd {w : World} {B Mp Mc Mn : Nat} {cap la fl : Int} {pins : List (Int × Int)} {all : List V4} {nw : List K} (h : BA w B Mp Mc Mn cap la fl pins all nw) : (pins.map Prod.fst).Nodup := by
  have := h.mp.kn
  simpa [List.map_map, Function.comp_def] using this
theorem BA.nwk {w : World} {B Mp Mc Mn : Nat} {cap la fl : Int} {pins : List (Int × Int)} {all : List V4} {nw : List K} (h : BA w B Mp Mc Mn cap la fl pins all nw) : ∀ k ∈ nw, isKey k = true := fun k hk => by
  obtain ⟨v, hv, rfl⟩ := (h.nwa k).1 hk
  exact h.ik v hv
theorem ofV_mem {k : K} {l : List V4} : (∃ v ∈ l, v.1 = k) ↔ ofV k l ≠ [] := by
  constructor
  · rintro ⟨v, hv, rfl⟩ e
    have : v ∈ ofV v.1 l := List.mem_filter.2 ⟨hv, by simp⟩
    rw [e] at this
    cases this
  · intro h
    cases hl : ofV k l with
    | nil => exact absurd hl h
    | cons v r =>
      have : v ∈ ofV k l := by rw [hl]; simp
      obtain ⟨h1, h2⟩ := List.mem_filter.1 this
      exact ⟨v, h1, by simpa using h2⟩
/-- the keys are the same -/
theorem keys_same {w : World} {B Mp Mc Mn B2 Mp2 Mc2 Mn2 : Nat} {cap cap2 la fl la2 fl2 : Int} {pins pins2 : List (Int × Int)} {all all2 : List V4} {nw nw2 : List K} (h : BA w B Mp Mc Mn cap la fl pins all nw) (h2 : BA w B2 Mp2 Mc2 Mn2 cap2 la2 fl2 pins2 all2 nw2) (he : ∀ k, ofV k all = ofV k all2) : sortK nw = sortK nw2 := by
  refine rise_unique (sortK_rise h.nwk) (sortK_rise h2.nwk) (fun k => ?_)
  rw [sortK_mem, sortK_mem, h.nwa, h2.nwa, ofV_mem, ofV_mem, he]
theorem ofV_append' (k : K) (A C : List V4) : ofV k (A ++ C) = ofV k A ++ ofV k C := by simp [ofV]
/-- one call on both -/
theorem Eqv.call {cap : Int} {o : Oc} {s t s' t' : Bs} {r r' : Bool} (h : Eqv s t) (hs : (s.pins.map Prod.fst).Nodup) (ht : (t.pins.map Prod.fst).Nodup) (h1 : DoR cap o s s' r) (h2 : DoR cap o t t' r') : r = r' ∧ Eqv s' t' := by
  have hadm : admE cap s.la s.all o.L = admE cap t.la t.all o.L := by unfold admE; rw [h.la, h.len]
  have hpin : pinE s.la s.fl s.pins o.m = pinE t.la t.fl t.pins o.m := by unfold pinE; rw [h.la, h.fl, h.pn, h.plen hs ht]
  cases h1 with
  | admNo k e =>
    cases h2 with
    | admNo _ _ => exact ⟨rfl, h⟩
    | admYes _ e2 => exact absurd (hadm.trans e2) e
    | pinNo k2 _ => omega
    | pinYes _ k2 _ _ => omega
    | unpNo k2 _ => omega
    | unpYes _ k2 _ _ => omega
    | coll _ _ k2 => omega
    | oth k2 _ _ _ => omega
  | admYes k e =>
    cases h2 with
    | admNo _ e2 => exact absurd (hadm.symm.trans e) e2
    | admYes _ e2 => exact ⟨rfl, by show s.la + 1 = t.la + 1; rw [h.la], h.fl, h.pn, fun k => by show ofV k (s.all ++ _) = ofV k (t.all ++ _); rw [ofV_append', ofV_append', h.al, h.la]⟩
    | pinNo k2 _ => omega
    | pinYes _ k2 _ _ => omega
    | unpNo k2 _ => omega
    | unpYes _ k2 _ _ => omega
    | coll _ _ k2 => omega
    | oth k2 _ _ _ => omega
  | pinNo k e =>
    cases h2 with
    | admNo k2 _ => omega
    | admYes k2 _ => omega
    | pinNo _ _ => exact ⟨rfl, h⟩
    | pinYes _ _ e2 _ => exact absurd (hpin.trans e2) e
    | unpNo k2 _ => omega
    | unpYes _ k2 _ _ => omega
    | coll _ _ k2 => omega
    | oth _ k2 _ _ => omega
  | pinYes p1 k e hp =>
    cases h2 with
    | admNo k2 _ => omega
    | admYes k2 _ => omega
    | pinNo _ e2 => exact absurd (hpin.symm.trans e) e2
    | pinYes p2 _ e2 hp2 => exact ⟨rfl, h.la, h.fl, fun n => by show Go.Proofs.Ytibdogniiglcjab.fpn p1 n = Go.Proofs.Ytibdogniiglcjab.fpn p2 n; rw [hp.fpn hs, hp2.fpn ht, h.pn, h.pn], h.al⟩
    | unpNo k2 _ => omega
    | unpYes _ k2 _ _ => omega
    | coll _ _ k2 => omega
    | oth _ k2 _ _ => omega
  | unpNo k e =>
    cases h2 with
    | admNo k2 _ => omega
    | admYes k2 _ => omega
    | pinNo k2 _ => omega
    | pinYes _ k2 _ _ => omega
    | unpNo _ _ => exact ⟨rfl, h⟩
    | unpYes _ _ e2 _ => rw [← h.pn, e] at e2; cases e2
    | coll _ _ k2 => omega
    | oth _ _ k2 _ => omega
  | unpYes p1 k e hp =>
    cases h2 with
    | admNo k2 _ => omega
    | admYes k2 _ => omega
    | pinNo k2 _ => omega
    | pinYes _ k2 _ _ => omega
    | unpNo _ e2 => rw [h.pn, e2] at e; cases e
    | unpYes p2 _ e2 hp2 => exact ⟨rfl, h.la, h.fl, fun n => by show Go.Proofs.Ytibdogniiglcjab.fpn p1 n = Go.Proofs.Ytibdogniiglcjab.fpn p2 n; rw [hp.fpn hs, hp2.fpn ht, h.pn, h.pn], h.al⟩
    | coll _ _ k2 => omega
    | oth _ _ k2 _ => omega
  | coll d a1 k hd1 hd2 hc =>
    cases h2 with
    | admNo k2 _ => omega
    | admYes k2 _ => omega
    | pinNo k2 _ => omega
    | pinYes _ k2 _ _ => omega
    | unpNo k2 _ => omega
    | unpYes _ k2 _ _ => omega
    | coll d2 a2 _ he1 he2 hc2 =>
      refine ⟨rfl, h.la, h.la, h.pn, fun k => ?_⟩
      show ofV k a1 = ofV k a2
      rw [hc.2, hc2.2, h.al]
      exact kpt_d (fun x => by rw [hd2.mem_iff, he2.mem_iff, h.pmem]) _
    | oth _ _ _ k2 => omega
  | oth k0 k1 k2 k3 =>
    cases h2 with
    | admNo k _ => omega
    | admYes k _ => omega
    | pinNo k _ => omega
    | pinYes _ k _ _ => omega
    | unpNo k _ => omega
    | unpYes _ k _ _ => omega
    | coll _ _ k => omega
    | oth _ _ _ _ => exact ⟨rfl, h⟩
theorem DoR.same {cap : Int} {o : Oc} {s s' : Bs} (h : DoR cap o s s' true) : s' = s := by
  cases h <;> rfl
theorem DoR.pin {cap : Int} {o : Oc} {s s' : Bs} {r : Bool} (h : DoR cap o s s' r) (hk : o.kind = 1) : r = true ↔ pinE s.la s.fl s.pins o.m ≠ 0 := by
  cases h with
  | pinNo _ e => exact ⟨fun _ => e, fun _ => rfl⟩
  | pinYes _ _ e _ => exact ⟨fun h => Bool.noConfusion h, fun h => absurd e h⟩
  | admNo k _ => omega
  | admYes k _ => omega
  | unpNo k _ => omega
  | unpYes _ k _ _ => omega
  | coll _ _ k => omega
  | oth _ k _ _ => omega
theorem DoR.unp {cap : Int} {o : Oc} {s s' : Bs} {r : Bool} (h : DoR cap o s s' r) (hk : o.kind = 2) : r = true ↔ o.m ∉ s.pins.map Prod.fst := by
  rw [fpn_mem]
  cases h with
  | unpNo _ e => rw [e]; simp
  | unpYes _ _ e _ => rw [e]; simp
  | admNo k _ => omega
  | admYes k _ => omega
  | pinNo k _ => omega
  | pinYes _ k _ _ => omega
  | coll _ _ k => omega
  | oth _ _ k _ => omega
end Go.Proofs.Ytibdogniiglcjab
/-
  sameKeys, samePlaces, samePins, AT LIKE LISTS; THE BOOK'S LISTS AS LISTS OF TWO INTS EACH.
-/
namespace Go.Proofs.Ytibdogniiglcjab
open Go.RowKit Go.Sort

theorem KeysAt.get2 {w : World} {ao : Option Addr} {L : List K} (h : KeysAt w ao L) (k : Nat) (hk : k < L.length) : ∃ b off, ao = some ⟨b, off, none⟩ ∧ w.cell? ⟨b, off + k * 2, none⟩ = some (.int .i64 (kd L k).1) ∧ w.cell? ⟨b, off + k * 2 + 1, none⟩ = some (.int .i64 (kd L k).2) := by
  rcases h with h0 | ⟨b, off, rfl, hc⟩
  · rw [h0] at hk; simp at hk
  · exact ⟨b, off, rfl, KeysAt.at hc k hk⟩
theorem eqPlace : (∀ (x y : Int × Int) (w : World), Sem.run Try.prog (binOp .neq 86 (.agg #[.int .i64 x.1, .int .i64 x.2]) (.agg #[.int .i64 y.1, .int .i64 y.2])) w = .ok (.bool (!decide (x = y))) w) := fun x y w => by
  have u3 := Try.underlying3
  have a3 := Try.isAgg3
  have z3 := Try.sizeOf3
  have hS : Try.prog.underlying 86 = some (.struct (Try.prog.fieldsOf 86)) := by kernel_rfl
  have hp : Try.prog.stoodInHeld 86 = false := by kernel_rfl
  rw [run_neq_struct, show (10000 : Nat) = 9999 + 1 from rfl, run_equalIn_agg w 9999 86 _ _ hS hp]
  simp only [Program.fieldsOf, Try.underlying86]
  go_simp
  obtain ⟨x1, x2⟩ := x
  obtain ⟨y1, y2⟩ := y
  by_cases h1 : x1 = y1 <;> by_cases h2 : x2 = y2 <;> simp [h1, h2]
theorem gdPlace (op : BinOp) (a b : Operand) (x1 x2 y1 y2 : Int) (w : World) : Sem.run Try.prog (eqGuard op 86 a b (.agg #[.int .i64 x1, .int .i64 x2]) (.agg #[.int .i64 y1, .int .i64 y2])) w = .ok () w := by
  exact GuardAt.agg (P := Try.prog) (T := 86) (fun x : K => #[.int .i64 x.1, .int .i64 x.2]) (by kernel_rfl) op a b (x1, x2) (y1, y2) w
theorem eqPin : (∀ (x y : Int × Int) (w : World), Sem.run Try.prog (binOp .neq 72 (.agg #[.int .i64 x.1, .int .i64 x.2]) (.agg #[.int .i64 y.1, .int .i64 y.2])) w = .ok (.bool (!decide (x = y))) w) := fun x y w => by
  have u3 := Try.underlying3
  have a3 := Try.isAgg3
  have z3 := Try.sizeOf3
  have hS : Try.prog.underlying 72 = some (.struct (Try.prog.fieldsOf 72)) := by kernel_rfl
  have hp : Try.prog.stoodInHeld 72 = false := by kernel_rfl
  rw [run_neq_struct, show (10000 : Nat) = 9999 + 1 from rfl, run_equalIn_agg w 9999 72 _ _ hS hp]
  simp only [Program.fieldsOf, Try.underlying72]
  go_simp
  obtain ⟨x1, x2⟩ := x
  obtain ⟨y1, y2⟩ := y
  by_cases h1 : x1 = y1 <;> by_cases h2 : x2 = y2 <;> simp [h1, h2]
theorem gdPin (op : BinOp) (a b : Operand) (x1 x2 y1 y2 : Int) (w : World) : Sem.run Try.prog (eqGuard op 72 a b (.agg #[.int .i64 x1, .int .i64 x2]) (.agg #[.int .i64 y1, .int .i64 y2])) w = .ok () w := by
  exact GuardAt.agg (P := Try.prog) (T := 72) (fun x : K => #[.int .i64 x.1, .int .i64 x.2]) (by kernel_rfl) op a b (x1, x2) (y1, y2) w
set_option maxHeartbeats 1000000 in
theorem sameKeys_eq (w : World) (ao bo : Option Addr) (n cap cb : Nat) (L : List K) (h1 : KeysAt w ao L) (h2 : KeysAt w bo L) (hn : n = L.length) (hm : n ≤ 8796093022208) :
    Calls Try.prog 50 #[.slice ao n cap, .slice bo n cb] w fun e w' => e = .returned (.bool true) ∧ ∃ q, w' = w.drewN q := by
  have H1 : Hid (KeysAt w ao L) := h1
  have H2 : Hid (KeysAt w bo L) := h2
  have HN : Hid (n = L.length) := hn
  clear h1 h2 hn
  go_enter Try.func50, Try.ntmps50
  go_wp2_with fail
  go_loopw [5] (fun x wr => ∃ k q : Nat, k ≤ n ∧ x = .int .i64 (k : Int) ∧ wr = w.drewN q) (fun x _ => n - (intOf x).toNat)
  case atStart => exact ⟨0, 0, Nat.zero_le _, rfl, rfl⟩
  case round =>
    obtain ⟨k, q, hk, rfl, rfl⟩ := hrel
    by_cases hlt : k < n
    · have hlt' : k < L.length := by have := HN.out; omega
      obtain ⟨b, off, rfl, e1, e2⟩ := KeysAt.get2 H1.out k hlt'
      obtain ⟨d, doff, rfl, e3, e4⟩ := KeysAt.get2 H2.out k hlt'
      generalize kd L k = kk at *
      obtain ⟨u, s⟩ := kk
      simp only at e1 e2 e3 e4
      have hq := run_neKey u s u s
      have hgd := fun op x y => run_eqGuard op x y u s u s
      simp only [decide_true, Bool.not_true] at hq
      go_wp2_with fail
      go_quiet (fail)
      go_wp2_with fail
      go_roundw
      case rel => exact ⟨k + 1, q + nq, by omega, by go_num, rfl⟩
      case measure => simp [intOf]; omega
    · obtain rfl : k = n := by omega
      go_wp2
      go_ret
      exact ⟨rfl, q, rfl⟩
set_option maxHeartbeats 1000000 in
theorem samePlaces_eq (w : World) (ao bo : Option Addr) (n cap cb : Nat) (L : List K) (h1 : KeysAt w ao L) (h2 : KeysAt w bo L) (hn : n = L.length) (hm : n ≤ 8796093022208) :
    Calls Try.prog 52 #[.slice ao n cap, .slice bo n cb] w fun e w' => e = .returned (.bool true) ∧ ∃ q, w' = w.drewN q := by
  have H1 : Hid (KeysAt w ao L) := h1
  have H2 : Hid (KeysAt w bo L) := h2
  have HN : Hid (n = L.length) := hn
  clear h1 h2 hn
  go_enter Try.func52, Try.ntmps52
  go_wp2_with fail
  go_loopw [5] (fun x wr => ∃ k q : Nat, k ≤ n ∧ x = .int .i64 (k : Int) ∧ wr = w.drewN q) (fun x _ => n - (intOf x).toNat)
  case atStart => exact ⟨0, 0, Nat.zero_le _, rfl, rfl⟩
  case round =>
    obtain ⟨k, q, hk, rfl, rfl⟩ := hrel
    by_cases hlt : k < n
    · have hlt' : k < L.length := by have := HN.out; omega
      obtain ⟨b, off, rfl, e1, e2⟩ := KeysAt.get2 H1.out k hlt'
      obtain ⟨d, doff, rfl, e3, e4⟩ := KeysAt.get2 H2.out k hlt'
      generalize kd L k = kk at *
      obtain ⟨u, s⟩ := kk
      simp only at e1 e2 e3 e4
      have hq := eqPlace (u, s) (u, s)
      have hgd := fun op x y => gdPlace op x y u s u s
      simp only [decide_true, Bool.not_true] at hq
      go_wp2_with fail
      go_quiet (fail)
      go_wp2_with fail
      go_roundw
      case rel => exact ⟨k + 1, q + nq, by omega, by go_num, rfl⟩
      case measure => simp [intOf]; omega
    · obtain rfl : k = n := by omega
      go_wp2
      go_ret
      exact ⟨rfl, q, rfl⟩
set_option maxHeartbeats 1000000 in
theorem samePins_eq (w : World) (ao bo : Option Addr) (n cap cb : Nat) (L : List K) (h1 : KeysAt w ao L) (h2 : KeysAt w bo L) (hn : n = L.length) (hm : n ≤ 8796093022208) :
    Calls Try.prog 51 #[.slice ao n cap, .slice bo n cb] w fun e w' => e = .returned (.bool true) ∧ ∃ q, w' = w.drewN q := by
  have H1 : Hid (KeysAt w ao L) := h1
  have H2 : Hid (KeysAt w bo L) := h2
  have HN : Hid (n = L.length) := hn
  clear h1 h2 hn
  go_enter Try.func51, Try.ntmps51
  go_wp2_with fail
  go_loopw [5] (fun x wr => ∃ k q : Nat, k ≤ n ∧ x = .int .i64 (k : Int) ∧ wr = w.drewN q) (fun x _ => n - (intOf x).toNat)
  case atStart => exact ⟨0, 0, Nat.zero_le _, rfl, rfl⟩
  case round =>
    obtain ⟨k, q, hk, rfl, rfl⟩ := hrel
    by_cases hlt : k < n
    · have hlt' : k < L.length := by have := HN.out; omega
      obtain ⟨b, off, rfl, e1, e2⟩ := KeysAt.get2 H1.out k hlt'
      obtain ⟨d, doff, rfl, e3, e4⟩ := KeysAt.get2 H2.out k hlt'
      generalize kd L k = kk at *
      obtain ⟨u, s⟩ := kk
      simp only at e1 e2 e3 e4
      have hq := eqPin (u, s) (u, s)
      have hgd := fun op x y => gdPin op x y u s u s
      simp only [decide_true, Bool.not_true] at hq
      go_wp2_with fail
      go_quiet (fail)
      go_wp2_with fail
      go_roundw
      case rel => exact ⟨k + 1, q + nq, by omega, by go_num, rfl⟩
      case measure => simp [intOf]; omega
    · obtain rfl : k = n := by omega
      go_wp2
      go_ret
      exact ⟨rfl, q, rfl⟩
/-- the pins as a book tells them -/
def pnl (pins : List (Int × Int)) (d : List Int) : List K := d.map (fun n => (n, (fpn pins n).getD 0))
theorem pcs_cks (pins : List (Int × Int)) : ∀ d, pcs pins d = cks (pnl pins d)
  | [] => rfl
  | n :: d => by simp only [pcs, pnl, List.map_cons, cks]; rw [pcs_cks pins d]; rfl
theorem row_at {w : World} {base : Nat} {T : TypeId} {v : Value} {L : List K} (h : w.ownsRow base T 2 v L.length (cks L)) : ∃ ao c, v = .slice ao L.length c ∧ KeysAt w ao L := by
  obtain ⟨_, ⟨rfl, h0⟩ | ⟨g, cp, cur, rfl, h1, h2, h3, h4, h5, h6⟩⟩ := h
  · have : L = [] := List.eq_nil_of_length_eq_zero h0
    subst this
    exact ⟨none, 0, rfl, .inl rfl⟩
  · refine ⟨some ⟨g, 0, none⟩, cp, rfl, .inr ⟨g, 0, rfl, fun j u hu => ?_⟩⟩
    rw [World.cell?, h2, Nat.zero_add]
    rw [← h6, List.getElem?_take] at hu
    split at hu
    · simpa using hu
    · cases hu
end Go.Proofs.Ytibdogniiglcjab
/-
  alike, pinned: TWO BOOKS THAT TELL THE SAME.
-/
namespace Go.Proofs.Ytibdogniiglcjab
open Go.RowKit Go.Sort

theorem BA.nwl {w : World} {B Mp Mc Mn : Nat} {cap la fl : Int} {pins : List (Int × Int)} {all : List V4} {nw : List K} (h : BA w B Mp Mc Mn cap la fl pins all nw) : nw.length ≤ 65536 := by
  have hnd : nw.Nodup := by have := h.mn.kn; simpa [List.map_map, Function.comp_def] using this
  have h1 := nodup_len nw (all.map Prod.fst) hnd (fun k hk => by
    obtain ⟨v, hv, rfl⟩ := (h.nwa k).1 hk
    exact List.mem_map.2 ⟨v, hv, rfl⟩)
  have h2 := h.ln
  have h3 := h.cp
  simp at h1
  omega
theorem BA.nkin {w : World} {B Mp Mc Mn : Nat} {cap la fl : Int} {pins : List (Int × Int)} {all : List V4} {nw : List K} (h : BA w B Mp Mc Mn cap la fl pins all nw) : ∀ k ∈ sortK nw, KIn k := fun k hk => by
  have h1 := (sortK_mem nw k).1 hk
  exact h.mn.dm (k, pv (nf f0 all k)) (List.mem_map.2 ⟨k, h1, rfl⟩)
theorem tell_keys {W : World} {B Mp Mc Mn : Nat} {cap la fl : Int} {pins : List (Int × Int)} {all : List V4} {nw : List K} (h : BA W B Mp Mc Mn cap la fl pins all nw) (S : List K) (hS : sortK nw = S) (n : Nat) (hn : n = S.length) :
    Calls Try.prog 22 #[ptr B] W fun e w' => ∃ ka kc, e = .returned (.slice ka n kc) ∧ KeysAt w' ka S ∧ Below W.heap.size W w' := by
  subst hn hS
  refine (keysB_any W B Mp Mc Mn cap la fl pins all nw h).mono ?_
  rintro e X ⟨v, rfl, ho, _, hb⟩
  obtain ⟨ka, kc, rfl, hka, _, _⟩ := ho.slice
  exact ⟨ka, kc, rfl, hka, hb⟩
theorem tell_pins {W : World} {B Mp Mc Mn : Nat} {cap la fl : Int} {pins : List (Int × Int)} {all : List V4} {nw : List K} (h : BA W B Mp Mc Mn cap la fl pins all nw) (d : List Int) (hd1 : d.Pairwise (· < ·)) (hd2 : ∀ x, x ∈ d ↔ x ∈ pins.map Prod.fst) (n : Nat) (hn : n = d.length) :
    Calls Try.prog 23 #[ptr B] W fun e w' => ∃ ka kc, e = .returned (.slice ka n kc) ∧ KeysAt w' ka (pnl pins d) ∧ Below W.heap.size W w' := by
  subst hn
  refine (pins_any W B Mp Mc Mn cap la fl pins all nw h).mono ?_
  rintro e X ⟨v, d2, rfl, h1, h2, ho, hb⟩
  have hd : d2 = d := rise_ints h1 hd1 (fun x => by rw [h2.mem_iff, hd2])
  subst hd
  have hl : d2.length = (pnl pins d2).length := by simp [pnl]
  rw [pcs_cks, hl] at ho
  obtain ⟨ka, kc, rfl, hka⟩ := row_at ho
  rw [← hl]
  exact ⟨ka, kc, rfl, hka, hb⟩
theorem tell_vers {W : World} {B Mp Mc Mn : Nat} {cap la fl : Int} {pins : List (Int × Int)} {all : List V4} {nw : List K} (h : BA W B Mp Mc Mn cap la fl pins all nw) (k : K) (hk : KIn k) (l : List V4) (hl : ofV k all = l) (n : Nat) (hn : n = l.length) :
    Calls Try.prog 24 #[ptr B, kv k] W fun e w' => ∃ ka kc, e = .returned (.slice ka n kc) ∧ KeysAt w' ka (plk l) ∧ Below W.heap.size W w' := by
  subst hn hl
  refine (versions_any W B Mp Mc Mn cap la fl pins all nw h k hk).mono ?_
  rintro e X ⟨v, rfl, ho, hb⟩
  have hl : (ofV k all).length = (plk (ofV k all)).length := by simp [plk]
  obtain ⟨ka, kc, rfl, hka⟩ := row_at ho
  rw [← hl]
  exact ⟨ka, kc, rfl, hka, hb⟩
/-- the pinned batches, rising -/
theorem pins_rise (pins : List (Int × Int)) (h : (pins.map Prod.fst).Nodup) : ∃ d : List Int, d.Pairwise (· < ·) ∧ (∀ x, x ∈ d ↔ x ∈ pins.map Prod.fst) ∧ d.length = pins.length := by
  have key : ∀ l : List Int, l.Nodup → ∃ d : List Int, d.Pairwise (· < ·) ∧ d.Perm l := by
    intro l hl
    refine ⟨l.mergeSort (fun a b => decide (a ≤ b)), ?_, List.mergeSort_perm l _⟩
    have h1 := List.pairwise_mergeSort (le := fun a b : Int => decide (a ≤ b)) (fun a b c h1 h2 => by simp at *; omega) (fun a b => by simp; omega) l
    have h2 : (l.mergeSort (fun a b => decide (a ≤ b))).Nodup := (List.mergeSort_perm l _).nodup_iff.2 hl
    refine (h1.and h2).imp ?_
    intro a b hab
    have := hab.1
    have := hab.2
    simp at *
    omega
  obtain ⟨d, h1, h2⟩ := key _ h
  exact ⟨d, h1, fun x => h2.mem_iff, by have := h2.length_eq; simpa using this⟩
def AlPost (w : World) (e : Ending) (w' : World) : Prop := e = .returned (.bool true) ∧ Below w.heap.size w w'
set_option maxHeartbeats 4000000 in
set_option maxRecDepth 100000 in
theorem alike_any (w : World) (B Mp Mc Mn C Np Nc Nn : Nat) (cap : Int) (s t : Bs) (nw nv : List K) (h : BA w B Mp Mc Mn cap s.la s.fl s.pins s.all nw) (h2 : BA w C Np Nc Nn cap t.la t.fl t.pins t.all nv) (he : Eqv s t) :
    Calls Try.prog 29 #[ptr B, ptr C] w fun e w' => AlPost w e w' := by
  obtain ⟨S, hS⟩ : ∃ S, S = sortK nw := ⟨_, rfl⟩
  have hS2 : sortK nv = S := by rw [hS]; exact (keys_same h h2 he.al).symm
  obtain ⟨kn, hkn⟩ : ∃ kn, kn = S.length := ⟨_, rfl⟩
  have hkn2 : kn ≤ 65536 := by rw [hkn, hS]; exact Nat.le_trans (sortK_length nw) h.nwl
  obtain ⟨d, hd1, hd2, hdl⟩ := pins_rise s.pins h.pnd
  obtain ⟨dn, hdn⟩ : ∃ dn, dn = d.length := ⟨_, rfl⟩
  have hdn2 : dn ≤ 32 := by rw [hdn, hdl]; exact h.ps.1
  have hpe : pnl t.pins d = pnl s.pins d := by unfold pnl; refine List.map_congr_left (fun n _ => ?_); rw [he.pn]
  obtain ⟨PL, hPL⟩ : ∃ PL, PL = pnl s.pins d := ⟨_, rfl⟩
  have hPLn : dn = PL.length := by rw [hPL, hdn]; simp [pnl]
  have HK1 : Hid (∀ W, Below w.heap.size w W → Calls Try.prog 22 #[ptr B] W fun e w' => ∃ ka kc, e = .returned (.slice ka kn kc) ∧ KeysAt w' ka S ∧ Below W.heap.size W w') := fun W hW => tell_keys (h.kept hW) S hS.symm kn hkn
  have HK2 : Hid (∀ W, Below w.heap.size w W → Calls Try.prog 22 #[ptr C] W fun e w' => ∃ ka kc, e = .returned (.slice ka kn kc) ∧ KeysAt w' ka S ∧ Below W.heap.size W w') := fun W hW => tell_keys (h2.kept hW) S hS2 kn hkn
  have HP1 : Hid (∀ W, Below w.heap.size w W → Calls Try.prog 23 #[ptr B] W fun e w' => ∃ ka kc, e = .returned (.slice ka dn kc) ∧ KeysAt w' ka PL ∧ Below W.heap.size W w') := fun W hW => by rw [hPL]; exact tell_pins (h.kept hW) d hd1 hd2 dn hdn
  have HP2 : Hid (∀ W, Below w.heap.size w W → Calls Try.prog 23 #[ptr C] W fun e w' => ∃ ka kc, e = .returned (.slice ka dn kc) ∧ KeysAt w' ka PL ∧ Below W.heap.size W w') := fun W hW => by rw [hPL, ← hpe]; exact tell_pins (h2.kept hW) d hd1 (fun x => (hd2 x).trans (he.pmem x)) dn hdn
  have HC1 : Hid (∀ W, Below w.heap.size w W → Calls Try.prog 17 #[ptr B] W fun e w' => e = .returned (.int .i64 (s.all.length : Int)) ∧ w' = W) := fun W hW => charge_any W B Mp Mc Mn cap s.la s.fl s.pins s.all nw (h.kept hW)
  have HC2 : Hid (∀ W, Below w.heap.size w W → Calls Try.prog 17 #[ptr C] W fun e w' => e = .returned (.int .i64 (s.all.length : Int)) ∧ w' = W) := fun W hW => by rw [he.len]; exact charge_any W C Np Nc Nn cap t.la t.fl t.pins t.all nv (h2.kept hW)
  have HL1 : Hid (∀ W, Below w.heap.size w W → Calls Try.prog 18 #[ptr B] W fun e w' => e = .returned (.int .i64 s.la) ∧ w' = W) := fun W hW => latest_any W B Mp Mc Mn cap s.la s.fl s.pins s.all nw (h.kept hW)
  have HL2 : Hid (∀ W, Below w.heap.size w W → Calls Try.prog 18 #[ptr C] W fun e w' => e = .returned (.int .i64 s.la) ∧ w' = W) := fun W hW => by rw [he.la]; exact latest_any W C Np Nc Nn cap t.la t.fl t.pins t.all nv (h2.kept hW)
  have HF1 : Hid (∀ W, Below w.heap.size w W → Calls Try.prog 25 #[ptr B] W fun e w' => e = .returned (.int .i64 s.fl) ∧ w' = W) := fun W hW => floor_any W B Mp Mc Mn cap s.la s.fl s.pins s.all nw (h.kept hW)
  have HF2 : Hid (∀ W, Below w.heap.size w W → Calls Try.prog 25 #[ptr C] W fun e w' => e = .returned (.int .i64 s.fl) ∧ w' = W) := fun W hW => by rw [he.fl]; exact floor_any W C Np Nc Nn cap t.la t.fl t.pins t.all nv (h2.kept hW)
  have HZ1 : Hid (∀ W, Below w.heap.size w W → Calls Try.prog 26 #[ptr B] W fun e w' => e = .returned (.int .i64 cap) ∧ w' = W) := fun W hW => capacity_any W B Mp Mc Mn cap s.la s.fl s.pins s.all nw (h.kept hW)
  have HZ2 : Hid (∀ W, Below w.heap.size w W → Calls Try.prog 26 #[ptr C] W fun e w' => e = .returned (.int .i64 cap) ∧ w' = W) := fun W hW => capacity_any W C Np Nc Nn cap t.la t.fl t.pins t.all nv (h2.kept hW)
  have HV1 : Hid (∀ k ∈ S, ∀ W, Below w.heap.size w W → Calls Try.prog 24 #[ptr B, kv k] W fun e w' => ∃ ka kc, e = .returned (.slice ka (ofV k s.all).length kc) ∧ KeysAt w' ka (plk (ofV k s.all)) ∧ Below W.heap.size W w') := fun k hk W hW => tell_vers (h.kept hW) k (h.nkin k (by rw [← hS]; exact hk)) _ rfl _ rfl
  have HV2 : Hid (∀ k ∈ S, ∀ W, Below w.heap.size w W → Calls Try.prog 24 #[ptr C, kv k] W fun e w' => ∃ ka kc, e = .returned (.slice ka (ofV k s.all).length kc) ∧ KeysAt w' ka (plk (ofV k s.all)) ∧ Below W.heap.size W w') := fun k hk W hW => tell_vers (h2.kept hW) k (h.nkin k (by rw [← hS]; exact hk)) _ (he.al k).symm _ rfl
  have HVl : Hid (∀ k, (ofV k s.all).length = (plk (ofV k s.all)).length ∧ (ofV k s.all).length ≤ 65536) := fun k => by
    refine ⟨by simp [plk], ?_⟩
    have h1 : (ofV k s.all).length ≤ s.all.length := List.length_filter_le _ _
    have h3 := h.ln
    have h4 := h.cp
    omega
  have HN := hidC (And.intro hkn hPLn)
  generalize (s.all.length : Int) = al at *
  generalize s.la = la at *
  generalize s.fl = fl at *
  clear h h2 hS hS2 hkn hd1 hd2 hdl hdn hpe hPL hPLn
  go_enter Try.func29, Try.ntmps29
  go_wp2_with fail
  refine (HK1.out w (Below.refl _ _)).mono ?_
  rintro e X1 ⟨ka, kc, rfl, hka1, hb1⟩
  have HB1 := hidC hb1
  have HKa1 := hidC hka1
  clear hb1 hka1
  go_wp2_with fail
  refine (HK2.out X1 HB1.out).mono ?_
  rintro e X2 ⟨kb, kc2, rfl, hkb, hb2⟩
  have HB2 : Hid (Below w.heap.size w X2) := HB1.out.trans (hb2.mono HB1.out.size)
  have HKa2 : Hid (KeysAt X2 ka S) := HKa1.out.kept hb2
  have HKb := hidC hkb
  clear hb2 hkb HB1 HKa1
  go_wp2_with fail
  refine (sameKeys_eq X2 ka kb kn kc kc2 S HKa2.out HKb.out HN.out.1 (by omega)).mono ?_
  rintro e X3 ⟨rfl, q, hX3⟩
  have HB3 : Hid (Below w.heap.size w X3) := by rw [hX3]; exact HB2.out.trans ((drew_below X2 q).mono HB2.out.size)
  have HKa3 : Hid (KeysAt X3 ka S) := by rw [hX3]; exact HKa2.out.kept (drew_below X2 q)
  clear hX3 HKb HB2 HKa2
  go_wp2_with fail
  refine (HP1.out X3 HB3.out).mono ?_
  rintro e X4 ⟨pa, pc, rfl, hpa, hb4⟩
  have HB4 : Hid (Below w.heap.size w X4) := HB3.out.trans (hb4.mono HB3.out.size)
  have HKa4 : Hid (KeysAt X4 ka S) := HKa3.out.kept hb4
  have HPa4 := hidC hpa
  clear hpa hb4 HB3 HKa3
  go_wp2_with fail
  refine (HP2.out X4 HB4.out).mono ?_
  rintro e X5 ⟨pb, pc2, rfl, hpb, hb5⟩
  have HB5 : Hid (Below w.heap.size w X5) := HB4.out.trans (hb5.mono HB4.out.size)
  have HKa5 : Hid (KeysAt X5 ka S) := HKa4.out.kept hb5
  have HPa5 : Hid (KeysAt X5 pa PL) := HPa4.out.kept hb5
  have HPb5 := hidC hpb
  clear hpb hb5 HB4 HKa4 HPa4
  go_wp2_with fail
  refine (samePins_eq X5 pa pb dn pc pc2 PL HPa5.out HPb5.out HN.out.2 (by omega)).mono ?_
  rintro e X6 ⟨rfl, q, hX6⟩
  have HB6 : Hid (Below w.heap.size w X6) := by rw [hX6]; exact HB5.out.trans ((drew_below X5 q).mono HB5.out.size)
  have HKa6 : Hid (KeysAt X6 ka S) := by rw [hX6]; exact HKa5.out.kept (drew_below X5 q)
  clear hX6 HPb5 HPa5 HB5 HKa5
  go_wp2_with fail
  refine (HC1.out X6 HB6.out).mono ?_
  rintro e Y ⟨rfl, hY⟩
  have hY' := hY.symm
  subst hY'
  clear hY
  go_wp2_with fail
  refine (HC2.out X6 HB6.out).mono ?_
  rintro e Y ⟨rfl, hY⟩
  have hY' := hY.symm
  subst hY'
  clear hY
  go_wp2_with fail
  refine (HL1.out X6 HB6.out).mono ?_
  rintro e Y ⟨rfl, hY⟩
  have hY' := hY.symm
  subst hY'
  clear hY
  go_wp2_with fail
  refine (HL2.out X6 HB6.out).mono ?_
  rintro e Y ⟨rfl, hY⟩
  have hY' := hY.symm
  subst hY'
  clear hY
  go_wp2_with fail
  refine (HF1.out X6 HB6.out).mono ?_
  rintro e Y ⟨rfl, hY⟩
  have hY' := hY.symm
  subst hY'
  clear hY
  go_wp2_with fail
  refine (HF2.out X6 HB6.out).mono ?_
  rintro e Y ⟨rfl, hY⟩
  have hY' := hY.symm
  subst hY'
  clear hY
  go_wp2_with fail
  refine (HZ1.out X6 HB6.out).mono ?_
  rintro e Y ⟨rfl, hY⟩
  have hY' := hY.symm
  subst hY'
  clear hY
  go_wp2_with fail
  refine (HZ2.out X6 HB6.out).mono ?_
  rintro e Y ⟨rfl, hY⟩
  have hY' := hY.symm
  subst hY'
  clear hY HK1 HK2 HP1 HP2 HC1 HC2 HL1 HL2 HF1 HF2 HZ1 HZ2
  go_wp2_with fail
  go_loopw [6] (fun x wr => ∃ i : Nat, i ≤ kn ∧ x = .int .i64 (i : Int) ∧ Hid (Below X6.heap.size X6 wr)) (fun x _ => kn - (intOf x).toNat)
  case atStart => exact ⟨0, Nat.zero_le _, rfl, Below.refl _ _⟩
  case round =>
    obtain ⟨i, hi, rfl, HI⟩ := hrel
    have HBw : Hid (Below w.heap.size w wr) := HB6.out.trans (HI.out.mono HB6.out.size)
    by_cases hlt : i < kn
    · have hil : i < S.length := by have := HN.out.1; omega
      have hmem : kd S i ∈ S := kd_mem hil
      obtain ⟨b, off, hka, e0, e1⟩ := KeysAt.get2 (HKa6.out.kept HI.out) i hil
      subst hka
      have HW1 := hidC (HV1.out _ hmem)
      have HW2 := hidC (HV2.out _ hmem)
      have HWl := hidC (HVl.out (kd S i))
      have HKp : Hid (∀ W, Below wr.heap.size wr W → W.cell? ⟨b, off + i * 2, none⟩ = some (.int .i64 (kd S i).1) ∧ W.cell? ⟨b, off + i * 2 + 1, none⟩ = some (.int .i64 (kd S i).2)) := fun W hW => ⟨(hW.cell (p := ⟨b, off + i * 2, none⟩) (cell_lt e0)).trans e0, (hW.cell (p := ⟨b, off + i * 2 + 1, none⟩) (cell_lt e1)).trans e1⟩
      generalize kd S i = kk at *
      obtain ⟨k1, k2⟩ := kk
      obtain ⟨vn, hvn⟩ : ∃ vn, vn = (ofV (k1, k2) s.all).length := ⟨_, rfl⟩
      rw [← hvn] at HW1 HW2 HWl
      generalize plk (ofV (k1, k2) s.all) = VL at *
      simp only at e0 e1 HKp
      have HBd : Hid (∀ W, Below wr.heap.size wr W → Below w.heap.size w W) := fun W hW => HBw.out.trans (hW.mono HBw.out.size)
      have HWd : Hid (Below wr.heap.size wr wr.drew) := drew_below wr 1
      have HDq : Hid (∀ Y2 Y3 q3, Below wr.heap.size wr Y2 → Y3 = Y2.drewN q3 → Below wr.heap.size wr Y3) := fun Y2 Y3 q3 h1 h2 => by rw [h2]; exact h1.trans ((drew_below Y2 q3).mono h1.size)
      simp only [kv] at HW1 HW2
      clear hmem hvn
      go_upto_region 7 with fail
      go_region_held3 (fun w' => w'.cell? ⟨b, off + i * 2, none⟩ = some (.int .i64 k1) ∧ w'.cell? ⟨b, off + i * 2 + 1, none⟩ = some (.int .i64 k2)) (first | with_reducible exact HKp.out _ HQ3.out | with_reducible exact HKp.out _ HQ2.out | with_reducible exact HKp.out _ HQ1.out | go_keep) (first
        | (go_at_call 24; with_reducible refine (HW1.out wr.drew (HBd.out _ HWd.out)).mono ?_; rintro e Y1 ⟨va, vc, rfl, hva, hb1⟩; have HQ1 := hidC (HWd.out.trans (hb1.mono HWd.out.size)); have HVa := hidC hva; clear hva hb1)
        | (go_at_call 24; with_reducible refine (HW2.out Y1 (HBd.out _ HQ1.out)).mono ?_; rintro e Y2 ⟨vb, vc2, rfl, hvb, hb2⟩; have HQ2 := hidC (HQ1.out.trans (hb2.mono HQ1.out.size)); have HVb := hidC hvb; have HVa2 := hidC (HVa.out.kept hb2); clear hvb hb2)
        | (go_at_call 52; with_reducible refine (samePlaces_eq Y2 va vb vn vc vc2 VL HVa2.out HVb.out HWl.out.1 (Nat.le_trans HWl.out.2 (by omega))).mono ?_; rintro e Y3 ⟨rfl, q3, hY3⟩; have HQ3 := hidC (HDq.out _ _ _ HQ2.out hY3); clear hY3))
      all_goals (
        have HB8 : Hid (Below X6.heap.size X6 Y3) := HI.out.trans (HQ3.out.mono HI.out.size)
        clear HQ1 HQ2 HQ3 HVa HVb HVa2
        go_wp2
        exact ⟨⟨i + 1, by omega, by go_num, HB8.out⟩, by simp [intOf]; omega⟩)
    · have HX : Hid (AlPost w (.returned (.bool true)) wr) := ⟨rfl, HBw.out⟩
      go_wp2
      go_ret
      exact HX.out
end Go.Proofs.Ytibdogniiglcjab
/-
  pinned; TWO BOOKS SIDE BY SIDE.
-/
namespace Go.Proofs.Ytibdogniiglcjab
open Go.RowKit Go.Sort

theorem pnl_kd {pins : List (Int × Int)} {d : List Int} {i : Nat} (h : i < d.length) : kd (pnl pins d) i = (d[i], (fpn pins d[i]).getD 0) := by
  unfold kd pnl
  simp [List.getD_eq_getElem?_getD, h]
set_option maxHeartbeats 1000000 in
set_option maxRecDepth 100000 in
theorem isPinned_any (w : World) (B Mp Mc Mn : Nat) (cap la fl : Int) (pins : List (Int × Int)) (all : List V4) (nw : List K) (h : BA w B Mp Mc Mn cap la fl pins all nw) (n : Int) :
    Calls Try.prog 30 #[ptr B, .int .i64 n] w fun e w' => e = .returned (.bool (decide (n ∈ pins.map Prod.fst))) ∧ Below w.heap.size w w' := by
  obtain ⟨d, hd1, hd2, hdl⟩ := pins_rise pins h.pnd
  obtain ⟨dn, hdn⟩ : ∃ dn, dn = d.length := ⟨_, rfl⟩
  have hdn2 : dn ≤ 32 := by rw [hdn, hdl]; exact h.ps.1
  have HP := hidC (tell_pins h d hd1 hd2 dn hdn)
  have HD := hidC (And.intro hd2 hdn)
  obtain ⟨mb, hmb⟩ : ∃ mb, mb = decide (n ∈ pins.map Prod.fst) := ⟨_, rfl⟩
  have HM := hidC hmb
  rw [← hmb]
  clear h hd1 hd2 hdl hdn hmb
  go_enter Try.func30, Try.ntmps30
  go_wp2_with fail
  refine HP.out.mono ?_
  rintro e W1 ⟨pa, pc, rfl, hpa, hb1⟩
  have HB1 := hidC hb1
  have HPa := hidC hpa
  clear HP hpa hb1
  go_wp2_with fail
  go_loopw [6] (fun x wr => ∃ k : Nat, k ≤ dn ∧ x = .int .i64 (k : Int) ∧ wr = W1 ∧ Hid (n ∉ d.take k)) (fun x _ => dn - (intOf x).toNat)
  case atStart => exact ⟨0, Nat.zero_le _, rfl, rfl, by simp [Hid]⟩
  case round =>
    obtain ⟨k, hk, rfl, hwr, HI⟩ := hrel
    subst hwr
    by_cases hlt : k < dn
    · have hkd : k < d.length := by have := HD.out.2; omega
      obtain ⟨b, off, hao, e0, _⟩ := KeysAt.get2 HPa.out k (by simp [pnl]; exact hkd)
      subst hao
      rw [pnl_kd hkd] at e0
      simp only at e0
      by_cases he : d[k] = n
      · have HX : Hid (mb = true) := by
          show mb = true
          rw [HM.out]
          exact decide_eq_true ((HD.out.1 n).1 (by rw [← he]; exact List.getElem_mem hkd))
        have heb : (d[k] == n) = true := by simpa using he
        generalize d[k] = x at *
        go_wp2
        go_ret
        exact ⟨by rw [HX.out]; rfl, HB1.out⟩
      · have HX : Hid (n ∉ d.take (k + 1)) := by
          show n ∉ d.take (k + 1)
          rw [List.take_succ_eq_append_getElem hkd, List.mem_append, List.mem_singleton]
          exact fun h => h.elim HI.out (fun h => he h.symm)
        have heb : (d[k] == n) = false := by simpa using he
        generalize d[k] = x at *
        go_wp2
        exact ⟨⟨k + 1, by omega, by go_num, by first | rfl | trivial, HX.out⟩, by simp [intOf]; omega⟩
    · have HX : Hid (mb = false) := by
        show mb = false
        rw [HM.out]
        refine decide_eq_false (fun h => ?_)
        have h1 := (HD.out.1 n).2 h
        have h2 := HI.out
        rw [show k = dn by omega, HD.out.2, List.take_length] at h2
        exact h2 h1
      go_wp2
      go_ret
      exact ⟨by rw [HX.out]; rfl, HB1.out⟩
theorem BA.notC {w : World} {B Mp Mc Mn : Nat} {cap la fl : Int} {pins : List (Int × Int)} {all : List V4} {nw : List K} (h : BA w B Mp Mc Mn cap la fl pins all nw) {x : Nat} {cs : Array Value} {T : TypeId} {z : Nat × Nat} (hx : w.heap[x]? = some (.cells cs T z)) (hT : T ≠ 81) : ¬ SB B Mp Mc Mn x := by
  rintro (rfl | rfl | rfl | rfl)
  · rw [h.bk] at hx
    simp only [Option.some.injEq, Obj.cells.injEq] at hx
    exact hT hx.2.1.symm
  · obtain ⟨ms, c, h1, _⟩ := h.mp.ex
    rw [h1] at hx
    cases hx
  · obtain ⟨ms, c, h1, _⟩ := h.mc.ex
    rw [h1] at hx
    cases hx
  · obtain ⟨ms, c, h1, _⟩ := h.mn.ex
    rw [h1] at hx
    cases hx
/-- what parts two books, and the pairs that name them -/
structure Apt (n0 P Q B Mp Mc Mn C Np Nc Nn : Nat) : Prop where
  ap : ∀ k, SB B Mp Mc Mn k → ¬ SB C Np Nc Nn k
  p1 : ¬ SB B Mp Mc Mn P
  p2 : ¬ SB C Np Nc Nn P
  q1 : ¬ SB B Mp Mc Mn Q
  q2 : ¬ SB C Np Nc Nn Q
  s1 : ∀ k, SB B Mp Mc Mn k → n0 ≤ k
  s2 : ∀ k, SB C Np Nc Nn k → n0 ≤ k
structure RefI (w : World) (P Q B Mp Mc Mn C Np Nc Nn : Nat) (cap : Int) (s t : Bs) (wr : World) : Prop where
  b1 : ∃ nw, BA wr B Mp Mc Mn cap s.la s.fl s.pins s.all nw
  b2 : ∃ nv, BA wr C Np Nc Nn cap t.la t.fl t.pins t.all nv
  cp : wr.cell? ⟨P, 0, none⟩ = some (ptr B)
  cq : wr.cell? ⟨Q, 0, none⟩ = some (ptr C)
  bw : Below w.heap.size w wr
section
variable {w : World} {P Q B Mp Mc Mn C Np Nc Nn : Nat} {cap : Int} {s t : Bs} {wr wr' : World}
theorem RefI.kept (h : RefI w P Q B Mp Mc Mn C Np Nc Nn cap s t wr) (hb : Below wr.heap.size wr wr') : RefI w P Q B Mp Mc Mn C Np Nc Nn cap s t wr' := by
  obtain ⟨nw, h1⟩ := h.b1
  obtain ⟨nv, h2⟩ := h.b2
  exact ⟨⟨nw, h1.kept hb⟩, ⟨nv, h2.kept hb⟩, (hb.cell (p := ⟨P, 0, none⟩) (cell_lt h.cp)).trans h.cp, (hb.cell (p := ⟨Q, 0, none⟩) (cell_lt h.cq)).trans h.cq, h.bw.trans (hb.mono h.bw.size)⟩
theorem Fr.cell {S : Nat → Prop} {a b : World} (h : Fr S a b) {p : Addr} {v : Value} (hc : a.cell? p = some v) (hS : ¬ S p.block) : b.cell? p = some v := by
  rw [World.cell?_of_block (w := a) (h.block p.block (cell_lt hc) hS)]
  exact hc
theorem RefI.do1 (h : RefI w P Q B Mp Mc Mn C Np Nc Nn cap s t wr) (ha : Apt w.heap.size P Q B Mp Mc Mn C Np Nc Nn) {o : Oc} {e : Ending} (hd : DoPost wr B Mp Mc Mn cap o s e wr') : ∃ r s', e = .returned (.bool r) ∧ DoR cap o s s' r ∧ RefI w P Q B Mp Mc Mn C Np Nc Nn cap s' t wr' ∧ Fr (SB B Mp Mc Mn) wr wr' := by
  obtain ⟨r, s', nw', h1, h2, h3, h4⟩ := hd
  obtain ⟨nv, h5⟩ := h.b2
  exact ⟨r, s', h1, h2, ⟨⟨nw', h3⟩, ⟨nv, h5.same (fun k hk => h4.block k (h5.lt hk) (fun hs => ha.ap k hs hk))⟩, h4.cell h.cp ha.p1, h4.cell h.cq ha.q1, h.bw.trans (h4.below h.bw.size ha.s1)⟩, h4⟩
theorem RefI.do2 (h : RefI w P Q B Mp Mc Mn C Np Nc Nn cap s t wr) (ha : Apt w.heap.size P Q B Mp Mc Mn C Np Nc Nn) {o : Oc} {e : Ending} (hd : DoPost wr C Np Nc Nn cap o t e wr') : ∃ r t', e = .returned (.bool r) ∧ DoR cap o t t' r ∧ RefI w P Q B Mp Mc Mn C Np Nc Nn cap s t' wr' ∧ Fr (SB C Np Nc Nn) wr wr' := by
  obtain ⟨r, t', nv', h1, h2, h3, h4⟩ := hd
  obtain ⟨nw, h5⟩ := h.b1
  exact ⟨r, t', h1, h2, ⟨⟨nw, h5.same (fun k hk => h4.block k (h5.lt hk) (fun hs => ha.ap k hk hs))⟩, ⟨nv', h3⟩, h4.cell h.cp ha.p2, h4.cell h.cq ha.q2, h.bw.trans (h4.below h.bw.size ha.s2)⟩, h4⟩
end
/-- two that are made alike -/
theorem ref_start {w X4 X5 X6 : World} {cap : Int} {rs : Bool} {s : Sn} {e1 e2 : Ending} (hb : Below w.heap.size w X4) (h1 : MadePost X4 cap rs s e1 X5) (h2 : MadePost X5 cap rs s e2 X6) :
    ∃ P Q, e1 = .returned (.tuple #[ptr P, .bool true]) ∧ e2 = .returned (.tuple #[ptr Q, .bool true]) ∧ Below w.heap.size w X6 ∧
      ((X6.cell? ⟨P, 0, none⟩ = some (.pointer none) ∧ X6.cell? ⟨Q, 0, none⟩ = some (.pointer none)) ∨
       (∃ B Mp Mc Mn C Np Nc Nn st, Apt w.heap.size P Q B Mp Mc Mn C Np Nc Nn ∧ RefI w P Q B Mp Mc Mn C Np Nc Nn cap st st X6)) := by
  obtain ⟨P, bv, rv, rfl, hP, hPl, hb5, h1⟩ := h1
  obtain ⟨Q, bv2, rv2, rfl, hQ, hQl, hb6, h2⟩ := h2
  have hP6 : X6.heap[P]? = _ := (hb6.block P (blk_lt hP)).trans hP
  have hbw5 : Below w.heap.size w X5 := hb.trans (hb5.mono hb.size)
  have hbw6 : Below w.heap.size w X6 := hbw5.trans (hb6.mono hbw5.size)
  refine ⟨P, Q, rfl, rfl, hbw6, ?_⟩
  rcases h1 with ⟨hne, rfl, _⟩ | ⟨he, B, Mp, Mc, Mn, nw, R, av, pvv, rfl, _, hba, hsb, _⟩
  · rcases h2 with ⟨_, rfl, _⟩ | ⟨he, _⟩
    · exact .inl ⟨by simp [World.cell?, hP6], by simp [World.cell?, hQ]⟩
    · exact absurd he hne
  · rcases h2 with ⟨hne, _⟩ | ⟨_, C, Np, Nc, Nn, nv, R2, av2, pv2, rfl, _, hbc, hsc, _⟩
    · exact absurd he hne
    · have hlt : ∀ k, SB B Mp Mc Mn k → k < X5.heap.size := fun k hk => hba.lt hk
      refine .inr ⟨B, Mp, Mc, Mn, C, Np, Nc, Nn, ⟨mdL rs s, mdL rs s, mdP rs s, mdA rs s⟩, ⟨fun k h1 h2 => ?_, ?_, fun h => ?_, fun h => ?_, ?_, fun k hk => ?_, fun k hk => ?_⟩, ⟨⟨nw, hba.kept hb6⟩, ⟨nv, hbc⟩, by simp [World.cell?, hP6], by simp [World.cell?, hQ], hbw6⟩⟩
      · have := hlt k h1; have := hsc k h2; omega
      · exact hba.notC hP (by decide)
      · have := hsc P h; have := blk_lt hP; omega
      · have := hlt Q h; omega
      · exact hbc.notC hQ (by decide)
      · have := hsb k hk; have := hb.size; omega
      · have := hsc k hk; have := hbw5.size; omega
/-- may a batch be pinned? -/
def mayB (s : Bs) (m : Int) : Bool := decide (0 ≤ m) && (decide (m ≤ s.la) && ((decide (m ∈ s.pins.map Prod.fst) || decide (s.fl ≤ m)) && !(if m ∈ s.pins.map Prod.fst then decide ((fpn s.pins m).getD 0 = 1099511627776) else decide (s.pins.length = 32))))
theorem may_pin (s : Bs) (m : Int) : pinE s.la s.fl s.pins m ≠ 0 ↔ mayB s m = false := by
  unfold pinE mayB
  by_cases h0 : m < 0
  · rw [if_pos (.inl h0), decide_eq_false (by omega : ¬ 0 ≤ m)]
    simp
  by_cases h1 : s.la < m
  · rw [if_pos (.inr h1), decide_eq_false (by omega : ¬ m ≤ s.la)]
    simp
  rw [if_neg (by omega), decide_eq_true (by omega : 0 ≤ m), decide_eq_true (by omega : m ≤ s.la)]
  cases hf : fpn s.pins m with
  | none =>
    have hm : m ∉ s.pins.map Prod.fst := by rw [fpn_mem, hf]; simp
    rw [if_neg hm, decide_eq_false hm]
    by_cases h2 : m < s.fl
    · rw [decide_eq_false (by omega : ¬ s.fl ≤ m)]
      simp [h2]
    · rw [decide_eq_true (by omega : s.fl ≤ m)]
      by_cases h3 : s.pins.length = 32 <;> simp [h2, h3]
  | some c =>
    have hm : m ∈ s.pins.map Prod.fst := by rw [fpn_mem, hf]; rfl
    rw [if_pos hm, decide_eq_true hm]
    by_cases h3 : c = 1099511627776 <;> simp [h3]
theorem may_do {cap : Int} {o : Oc} {s s' : Bs} {r : Bool} (h : DoR cap o s s' r) : (o.kind = 1 → (r == mayB s o.m) = false) ∧ (o.kind = 2 → (r == decide (o.m ∈ s.pins.map Prod.fst)) = false) := by
  constructor
  · intro hk
    have h1 := (h.pin hk).trans (may_pin s o.m)
    cases r <;> cases hm : mayB s o.m <;> simp_all
  · intro hk
    have h1 := h.unp hk
    by_cases hm : o.m ∈ s.pins.map Prod.fst
    · rw [decide_eq_true hm]
      cases r with
      | true => exact absurd hm (h1.1 rfl)
      | false => rfl
    · rw [decide_eq_false hm]
      cases r with
      | true => rfl
      | false => exact absurd (h1.2 hm) (by simp)
end Go.Proofs.Ytibdogniiglcjab
/-
  WHAT A BOOK TELLS BEHIND A COLLECT CAN BE RESTORED: THE MATHEMATICS.
-/
namespace Go.Proofs.Ytibdogniiglcjab
open Go.RowKit Go.Sort

def stp (v : V4) : Stp := ⟨v.2.1, v.2.2, false, 0⟩
def stps (l : List V4) : List Stp := l.map stp
/-- a snapshot of what a book tells -/
structure Tld (s : Sn) (la : Int) (pl : List (Int × Int)) (S : List K) (all : List V4) : Prop where
  la : s.la = la
  pn : s.pins = pl
  ch : kl s.chs = S.map (fun k => (k, stps (ofV k all)))
/-- of what is kept each one is seen ahead of the next -/
def DownS (d : List Int) : Int → List V4 → Prop
  | _, [] => True
  | nb, v :: l => seenN d v.2.1 nb = true ∧ DownS d v.2.1 l
theorem keepR_down {d : List Int} {k : K} : ∀ (l : List V4) (nb : Int), (∀ v ∈ l, v.1 = k) → DownS d nb (keepR d k l nb)
  | [], _, _ => trivial
  | v :: l, nb, h => by
    have h1 := h v (by simp)
    have h2 : ∀ u ∈ l, u.1 = k := fun u hu => h u (by simp [hu])
    simp only [keepR, if_pos h1]
    split
    · rename_i hs
      exact ⟨hs, keepR_down l _ h2⟩
    · exact keepR_down l _ h2
theorem DownS.get {d : List Int} : ∀ (R : List V4) (u : V4), DownS d u.2.1 R → ∀ i (h : i + 1 < (u :: R).length), seenN d (u :: R)[i + 1].2.1 (u :: R)[i].2.1 = true
  | [], _, _, i, h => by simp at h
  | v :: R, u, hd, 0, _ => hd.1
  | v :: R, u, hd, i + 1, h => DownS.get R v hd.2 i (by simpa using h)
theorem kpt_seen {d : List Int} {k : K} {l : List V4} (h : ∀ v ∈ l, v.1 = k) (j : Nat) (hj : j + 1 < (kpt d l).length) : seenN d (kpt d l)[j].2.1 (kpt d l)[j + 1].2.1 = true := by
  cases hr : l.reverse with
  | nil =>
    have e : kpt d l = [] := by unfold kpt; rw [hr]
    rw [e] at hj
    simp at hj
  | cons u r =>
    have e : kpt d l = (u :: keepR d u.1 r u.2.1).reverse := by unfold kpt; rw [hr]; simp
    have hu : u.1 = k := h u (by rw [← List.mem_reverse, hr]; simp)
    have hd : DownS d u.2.1 (keepR d u.1 r u.2.1) := keepR_down r _ (fun v hv => by rw [hu]; exact h v (by rw [← List.mem_reverse, hr]; simp [hv]))
    obtain ⟨R, hR⟩ : ∃ R, R = u :: keepR d u.1 r u.2.1 := ⟨_, rfl⟩
    have hg : ∀ i (h : i + 1 < R.length), seenN d R[i + 1].2.1 R[i].2.1 = true := by subst hR; exact DownS.get _ u hd
    rw [← hR] at e
    clear hd hR
    simp only [e] at hj ⊢
    rw [List.length_reverse] at hj
    rw [List.getElem_reverse, List.getElem_reverse]
    have h1 := hg (R.length - 1 - (j + 1)) (by omega)
    have e2 : R.length - 1 - (j + 1) + 1 = R.length - 1 - j := by omega
    simp only [e2] at h1
    exact h1
theorem seenN_lt {d : List Int} {b nx : Int} (h : seenN d b nx = true) : b < nx := by
  unfold seenN at h
  rw [List.any_eq_true] at h
  obtain ⟨p, _, hp⟩ := h
  simp at hp
  omega
theorem chOK_of {d : List Int} {la : Int} {l : List V4} (h0 : 0 < l.length) (hp : ∀ v ∈ l, PlOK la v) (hs : ∀ j (hj : j + 1 < l.length), seenN d l[j].2.1 l[j + 1].2.1 = true) : ChOK la d (stps l) := by
  refine ⟨by simpa [stps] using h0, fun i hi => ?_⟩
  have hi' : i < l.length := by simpa [stps] using hi
  have he : (stps l)[i] = stp l[i] := by simp [stps]
  obtain ⟨a1, a2, a3, a4⟩ := hp _ (List.getElem_mem hi')
  rw [he]
  cases i with
  | zero => exact ⟨⟨a1, a2, a3, a4⟩, fun j e => by omega⟩
  | succ n =>
    have hn : n < l.length := by omega
    have hl : loC (stps l) (n + 1) = l[n].2.1 + 1 := by
      simp only [loC, List.getD_eq_getElem?_getD]
      rw [List.getElem?_eq_getElem (by simpa [stps] using hn)]
      simp [stps, stp]
    have h2 := hs n hi'
    have h3 := seenN_lt h2
    refine ⟨⟨by rw [hl]; exact h3, a2, a3, a4⟩, fun j _ => ?_⟩
    rw [hl, Int.add_sub_cancel]
    exact h2
theorem pnl_fst (pins : List (Int × Int)) (d : List Int) : (pnl pins d).map Prod.fst = d := by simp [pnl, List.map_map, Function.comp_def]
theorem pnl_fpn {pins : List (Int × Int)} {d : List Int} (hd1 : d.Pairwise (· < ·)) (hd2 : ∀ x, x ∈ d ↔ x ∈ pins.map Prod.fst) (n : Int) : fpn (pnl pins d) n = fpn pins n := by
  by_cases h : n ∈ d
  · obtain ⟨A, C, rfl⟩ := List.append_of_mem h
    have e : pnl pins (A ++ n :: C) = pnl pins A ++ (n, (fpn pins n).getD 0) :: pnl pins C := by simp [pnl]
    have hnd : ((pnl pins (A ++ n :: C)).map Prod.fst).Nodup := by
      rw [pnl_fst]
      exact hd1.imp (fun h => by omega)
    rw [e] at hnd ⊢
    rw [fpn_at hnd]
    have h1 := (fpn_mem pins n).1 ((hd2 n).1 h)
    obtain ⟨c, hc⟩ := Option.isSome_iff_exists.1 h1
    rw [hc]
    rfl
  · rw [fpn_absent (by rw [pnl_fst]; exact h), fpn_absent (fun h1 => h ((hd2 n).2 h1))]
theorem pnOK_of {la : Int} {pins : List (Int × Int)} {d : List Int} (hl : d.length = pins.length) (hp : pins.length ≤ 32 ∧ ∀ p ∈ pins, 0 ≤ p.1 ∧ p.1 ≤ la ∧ 1 ≤ p.2 ∧ p.2 ≤ 1099511627776) (hd1 : d.Pairwise (· < ·)) (hd2 : ∀ x, x ∈ d ↔ x ∈ pins.map Prod.fst) : PnOK la (pnl pins d) := by
  refine ⟨by simp [pnl]; omega, fun i hi => ?_⟩
  have hi' : i < d.length := by simpa [pnl] using hi
  have he : (pnl pins d)[i] = (d[i], (fpn pins d[i]).getD 0) := by simp [pnl]
  have hm := (fpn_mem pins d[i]).1 ((hd2 _).1 (List.getElem_mem hi'))
  obtain ⟨c, hc⟩ := Option.isSome_iff_exists.1 hm
  obtain ⟨A, C, hA⟩ := fpn_some hc
  have h1 := hp.2 (d[i], c) (by rw [hA]; simp)
  rw [he, hc]
  refine ⟨?_, h1.2⟩
  cases i with
  | zero => exact h1.1
  | succ n =>
    have hn : n < d.length := by omega
    have hl : loP (pnl pins d) (n + 1) = d[n] + 1 := by
      simp only [loP, List.getD_eq_getElem?_getD]
      rw [List.getElem?_eq_getElem (by simpa [pnl] using hn)]
      simp [pnl]
    rw [hl]
    have := List.pairwise_iff_getElem.1 hd1 n (n + 1) hn hi' (by omega)
    simp only
    omega
/-- the versions of keys, key by key -/
theorem ofV_flat {all : List V4} (k : K) : ∀ (S : List K), S.Nodup → ofV k (S.flatMap (fun x => ofV x all)) = if k ∈ S then ofV k all else []
  | [], _ => rfl
  | x :: S, h => by
    have h1 := List.nodup_cons.1 h
    rw [List.flatMap_cons, ofV_append', ofV_flat k S h1.2]
    by_cases hx : k = x
    · subst hx
      rw [if_neg h1.1, if_pos (by simp), List.append_nil]
      unfold ofV
      rw [List.filter_filter]
      congr 1
      funext v
      simp
    · have e : ofV k (ofV x all) = [] := ofV_none (fun v hv e => hx (by
        have := (List.mem_filter.1 hv).2
        simp at this
        rw [← e, this]))
      rw [e, List.nil_append]
      by_cases hs : k ∈ S
      · rw [if_pos hs, if_pos (by simp [hs])]
      · rw [if_neg hs, if_neg (by simp [hs, hx])]
theorem snV_klB : ∀ (l : List Ch), snV l = (kl l).flatMap (fun p => p.2.map (fun v => (p.1, (v.b, v.i))))
  | [] => rfl
  | c :: l => by
    have := snV_klB l
    simp only [snV, kl, List.flatMap_cons, List.map_cons] at this ⊢
    rw [this]
    rfl
theorem snSize_klB (l : List Ch) : snSize l = ((kl l).map (fun p => p.2.length)).sum := by simp [snSize, kl, List.map_map, Function.comp_def]
theorem Tld.all {s : Sn} {la : Int} {pl : List (Int × Int)} {S : List K} {all : List V4} (h : Tld s la pl S all) : snV s.chs = S.flatMap (fun x => ofV x all) := by
  rw [snV_klB, h.ch, List.flatMap_map]
  congr 1
  funext x
  simp only [stps, List.map_map]
  conv => rhs; rw [← List.map_id (ofV x all)]
  refine List.map_congr_left (fun v hv => ?_)
  have hv := (List.mem_filter.1 hv).2
  simp at hv
  simp [stp, ← hv]
structure BackR (cap la : Int) (pins : List (Int × Int)) (all : List V4) (s : Sn) : Prop where
  ok : SnOK s
  zero : restE cap s = 0
  pn : ∀ n, fpn s.pins n = fpn pins n
  al : ∀ k, ofV k (snV s.chs) = ofV k all
/-- what a book tells behind a collect -/
theorem back_can {w : World} {B Mp Mc Mn : Nat} {cap la fl : Int} {pins : List (Int × Int)} {all0 all : List V4} {nw : List K} {d : List Int} {s : Sn} (h : BA w B Mp Mc Mn cap la fl pins all nw) (hc : CollN d all0 all) (hd1 : d.Pairwise (· < ·)) (hd : d.Perm (pins.map Prod.fst)) (ht : Tld s la (pnl pins d) (sortK nw) all) : BackR cap la pins all s := by
  have hd2 : ∀ x, x ∈ d ↔ x ∈ pins.map Prod.fst := fun x => hd.mem_iff
  have hdl : d.length = pins.length := by have := hd.length_eq; simpa using this
  have hSh := shrt_of h hc hd
  have hla := h.la
  have hpO := pnOK_of hdl h.ps hd1 hd2
  have hk : ∀ c ∈ s.chs, c.k ∈ sortK nw ∧ c.l = stps (ofV c.k all) := fun c hcm => by
    have h1 : (c.k, c.l) ∈ kl s.chs := List.mem_map.2 ⟨c, hcm, rfl⟩
    rw [ht.ch] at h1
    obtain ⟨k, hk, e⟩ := List.mem_map.1 h1
    simp only [Prod.mk.injEq] at e
    obtain ⟨rfl, e2⟩ := e
    exact ⟨hk, e2.symm⟩
  have hpl : ∀ k, ∀ v ∈ ofV k all, PlOK la v := fun k v hv => h.pl v (List.mem_filter.1 hv).1
  have hcl : s.chs.length = (sortK nw).length := by
    have := congrArg List.length ht.ch
    simpa [kl] using this
  have hkeys : s.chs.map Ch.k = sortK nw := by
    have := congrArg (List.map Prod.fst) ht.ch
    simpa [kl, List.map_map, Function.comp_def] using this
  have hlen : all.length ≤ 65536 := by have := h.ln; have := h.cp; omega
  have hCan : CanR s := by
    refine ⟨by rw [ht.la]; omega, by rw [ht.la, ht.pn]; exact hpO, fun c hcm => ?_, by rw [hkeys]; exact sortK_rise h.nwk⟩
    obtain ⟨h1, h2⟩ := hk c hcm
    rw [ht.la, ht.pn, pnl_fst, h2]
    refine chOK_of (hSh.one _ h1).1 (hpl _) ?_
    rw [hc.2]
    exact fun j hj => kpt_seen (k := c.k) (fun v hv => by simpa using (List.mem_filter.1 hv).2) j hj
  have hsz : snSize s.chs = all.length := by
    rw [snSize_klB, ht.ch, List.map_map]
    rw [← hSh.total]
    congr 1
    refine List.map_congr_left (fun k _ => ?_)
    simp [stps]
  refine ⟨⟨?_, ?_, fun c hcm => ?_, fun p hp => ?_, fun c hcm => ?_, ?_⟩, restE_ok h.cp hCan (by have := h.ln; omega), fun n => by rw [ht.pn]; exact pnl_fpn hd1 hd2 n, fun k => ?_⟩
  · rw [ht.pn]; have := hpO.1; omega
  · rw [hcl, hSh.len]; have := h.nwl; omega
  · obtain ⟨h1, h2⟩ := hk c hcm
    rw [h2]
    have : (ofV c.k all).length ≤ all.length := List.length_filter_le _ _
    simp [stps]
    omega
  · rw [ht.pn] at hp
    obtain ⟨i, hi, rfl⟩ := List.getElem_of_mem hp
    have h1 := hpO.2 i hi
    have h0 : 0 ≤ (pnl pins d)[i].1 := by
      have hm : (pnl pins d)[i].1 ∈ d := by
        have : (pnl pins d)[i].1 ∈ (pnl pins d).map Prod.fst := List.mem_map.2 ⟨_, List.getElem_mem hi, rfl⟩
        rwa [pnl_fst] at this
      obtain ⟨q, hq, e⟩ := List.mem_map.1 ((hd2 _).1 hm)
      rw [← e]
      exact (h.ps.2 q hq).1
    unfold In64
    omega
  · obtain ⟨h1, h2⟩ := hk c hcm
    refine ⟨hSh.kin _ h1, fun v hv => ?_⟩
    rw [h2] at hv
    obtain ⟨u, hu, rfl⟩ := List.mem_map.1 hv
    obtain ⟨b1, b2, b3, b4⟩ := hpl _ u hu
    unfold In64 stp
    simp only
    omega
  · rw [ht.la]; unfold In64; omega
  · rw [ht.all, ofV_flat k _ hSh.nd]
    by_cases hks : k ∈ sortK nw
    · rw [if_pos hks]
    · rw [if_neg hks]
      exact (ofV_none (fun v hv e => hks (by rw [← e]; exact hSh.mem v hv))).symm
end Go.Proofs.Ytibdogniiglcjab
/-
  snapshot: WHAT A BOOK TELLS, AS A SNAPSHOT.
-/
namespace Go.Proofs.Ytibdogniiglcjab
open Go.RowKit Go.Sort

theorem pns_cks : ∀ l : List (Int × Int), cks l = pns l
  | [] => rfl
  | x :: l => by simp only [cks, pns]; rw [pns_cks l]
theorem rowBase {w : World} {base base' : Nat} {T : TypeId} {sz n : Nat} {v : Value} {xs : List Value} (h : w.ownsRow base T sz v n xs) (hb : base' ≤ base) : w.ownsRow base' T sz v n xs := by
  obtain ⟨hl, h⟩ := h
  refine ⟨hl, ?_⟩
  rcases h with h | ⟨g, cap, cur, e, hg, r⟩
  · exact .inl h
  · exact .inr ⟨g, cap, cur, e, Nat.le_trans hb hg, r⟩
theorem rowOpen {w : World} {base : Nat} {T : TypeId} {sz n : Nat} {v : Value} {xs : List Value} (h : w.ownsRow base T sz v n xs) : ∃ a m c, v = .slice a m c := by
  obtain ⟨_, ⟨rfl, _⟩ | ⟨g, cp, cur, rfl, _⟩⟩ := h
  · exact ⟨_, _, _, rfl⟩
  · exact ⟨_, _, _, rfl⟩
/-- a chain that is being told -/
structure TcB (W : World) (base Cb : Nat) (k : K) (vv : Value) (l : List Stp) : Prop where
  cb : W.heap[Cb]? = some (.cells #[.int .i64 k.1, .int .i64 k.2, vv] 75 (0, 0))
  rv : W.ownsRow base 112 4 vv l.length (scs l)
  le : base ≤ Cb
section
variable {W W' : World} {base Cb : Nat} {k : K} {vv : Value} {l : List Stp}
theorem TcB.cells (h : TcB W base Cb k vv l) : W.cell? ⟨Cb, 0, none⟩ = some (.int .i64 k.1) ∧ W.cell? ⟨Cb, 1, none⟩ = some (.int .i64 k.2) ∧ W.cell? ⟨Cb, 2, none⟩ = some vv := by
  refine ⟨?_, ?_, ?_⟩ <;> simp [World.cell?, h.cb]
theorem TcB.ne (h : TcB W base Cb k vv l) : vv.ownBlock ≠ some Cb := fun e => by
  obtain ⟨cur, hc⟩ := rowBlock h.rv e
  rw [h.cb] at hc
  cases hc
theorem TcB.kept (h : TcB W base Cb k vv l) (hb : Below W.heap.size W W') : TcB W' base Cb k vv l :=
  ⟨(hb.block _ (blk_lt h.cb)).trans h.cb, rowSame h.rv (fun g hg => hb.block g (World.ownsRow.lt h.rv g hg).2), h.le⟩
/-- one version more -/
theorem TcB.put (h : TcB W base Cb k vv l) {x : Stp} {vv' : Value} (ho : W'.ownsRow base 112 4 vv' (l.length + 1) (scs (l ++ [x]))) (hg : W.grownBy W' vv.ownBlock) (hat : vv'.ownBlock = vv.ownBlock ∨ vv'.ownBlock = some W.heap.size) :
    (W'.cell? ⟨Cb, 2, none⟩ = some vv ∧ W'.frozen? ⟨Cb, 2, none⟩ = false) ∧ TcB (W'.setCell ⟨Cb, 2, none⟩ vv') base Cb k vv' (l ++ [x]) := by
  have hR := blk_lt h.cb
  have hbk : W'.heap[Cb]? = _ := (hg.block Cb hR (fun e => h.ne e.symm)).trans h.cb
  have hs : ∀ k, k ≠ Cb → (W'.setCell ⟨Cb, 2, none⟩ vv').heap[k]? = W'.heap[k]? := fun k hk => heap_setCell_other _ _ _ _ (fun e => hk e)
  refine ⟨⟨by simp [World.cell?, hbk], frozen_of_row _ _ _ _ _ hbk⟩, heap_setCell_same W' Cb 2 _ _ vv' hbk, ?_, h.le⟩
  have e1 : (l ++ [x]).length = l.length + 1 := by simp
  rw [e1]
  refine rowSame ho (fun g hg' => hs g (fun e => ?_))
  rcases hat with e1 | e1
  · exact h.ne (by rw [← e1, hg', e])
  · rw [hg'] at e1; cases e1; omega
end
def ShotPost (w : World) (la : Int) (pl : List (Int × Int)) (S : List K) (all : List V4) (e : Ending) (w' : World) : Prop := ∃ s : Sn, e = .returned (snv s) ∧ Tld s la pl S all ∧ SnAt w'.heap.size w' s ∧ Below w.heap.size w w'
theorem tell_pinsO {W : World} {B Mp Mc Mn : Nat} {cap la fl : Int} {pins : List (Int × Int)} {all : List V4} {nw : List K} (h : BA W B Mp Mc Mn cap la fl pins all nw) (d : List Int) (hd1 : d.Pairwise (· < ·)) (hd2 : ∀ x, x ∈ d ↔ x ∈ pins.map Prod.fst) (n : Nat) (hn : n = d.length) :
    Calls Try.prog 23 #[ptr B] W fun e w' => ∃ ka kc, e = .returned (.slice ka n kc) ∧ w'.ownsRow W.heap.size 72 2 (.slice ka n kc) (pnl pins d).length (pns (pnl pins d)) ∧ Below W.heap.size W w' := by
  subst hn
  refine (pins_any W B Mp Mc Mn cap la fl pins all nw h).mono ?_
  rintro e X ⟨v, d2, rfl, h1, h2, ho, hb⟩
  have hd : d2 = d := rise_ints h1 hd1 (fun x => by rw [h2.mem_iff, hd2])
  subst hd
  have hl : d2.length = (pnl pins d2).length := by simp [pnl]
  rw [pcs_cks, pns_cks, hl] at ho
  obtain ⟨ka, kn, kc, rfl⟩ := rowOpen ho
  obtain ⟨e1, _⟩ := rowCs ho
  subst e1
  rw [← hl] at ho ⊢
  exact ⟨ka, kc, rfl, ho, hb⟩
theorem tell_keysO {W : World} {B Mp Mc Mn : Nat} {cap la fl : Int} {pins : List (Int × Int)} {all : List V4} {nw : List K} (h : BA W B Mp Mc Mn cap la fl pins all nw) (S : List K) (hS : sortK nw = S) (n : Nat) (hn : n = S.length) :
    Calls Try.prog 22 #[ptr B] W fun e w' => ∃ ka kc, e = .returned (.slice ka n kc) ∧ OwnK w' W.heap.size (.slice ka n kc) S ∧ Below W.heap.size W w' := by
  subst hn hS
  refine (keysB_any W B Mp Mc Mn cap la fl pins all nw h).mono ?_
  rintro e X ⟨v, rfl, ho, _, hb⟩
  obtain ⟨ka, kc, rfl, _, _, _⟩ := ho.slice
  exact ⟨ka, kc, rfl, ho, hb⟩
theorem BA.skl {w : World} {B Mp Mc Mn : Nat} {cap la fl : Int} {pins : List (Int × Int)} {all : List V4} {nw : List K} (h : BA w B Mp Mc Mn cap la fl pins all nw) : (sortK nw).length ≤ nw.length := by
  have hr := sortK_rise h.nwk
  have hnS : (sortK nw).Nodup := hr.2.imp (fun {a b} hab e => by subst e; rw [lt_irrefl] at hab; cases hab)
  exact nodup_len (sortK nw) nw hnS (fun x hx => (sortK_mem nw x).1 hx)
/-- what has been told so far -/
def ShI (w : World) (Ob Rb : Nat) (la : Int) (pvv kav : Value) (PL : List (Int × Int)) (S : List K) (all : List V4) (i : Nat) (wr : World) : Prop := ∃ cv ds, CpB wr w.heap.size Ob la pvv cv PL ds ∧ wr.heap[Rb]? = some (.cells #[.int .i64 0, .slice none 0 0, .slice none 0 0] 27 (0, 0)) ∧ Below w.heap.size w wr ∧ OwnK wr w.heap.size kav S ∧ kl ds = (S.take i).map (fun k => (k, stps (ofV k all)))
theorem kl_snoc (ds : List Ch) (c : Ch) : kl (ds ++ [c]) = kl ds ++ [(c.k, c.l)] := by simp [kl]
set_option maxRecDepth 100000 in
set_option maxHeartbeats 4000000 in
theorem shot_any (w : World) (B Mp Mc Mn : Nat) (cap la fl : Int) (pins : List (Int × Int)) (all : List V4) (nw : List K) (h : BA w B Mp Mc Mn cap la fl pins all nw) (d : List Int) (hd1 : d.Pairwise (· < ·)) (hd : d.Perm (pins.map Prod.fst)) :
    Calls Try.prog 28 #[ptr B] w fun e w' => ShotPost w la (pnl pins d) (sortK nw) all e w' := by
  obtain ⟨W1, hW1⟩ : ∃ W1, W1 = w.alloc (.cells #[.int .i64 0, .slice none 0 0, .slice none 0 0] 27) := ⟨_, rfl⟩
  obtain ⟨Rb, hRb⟩ : ∃ Rb, Rb = w.heap.size := ⟨_, rfl⟩
  have HB1 : Hid (Below w.heap.size w W1 ∧ W1.heap[Rb]? = some (.cells #[.int .i64 0, .slice none 0 0, .slice none 0 0] 27 (0, 0)) ∧ w.heap.size ≤ Rb) := by
    rw [hW1, hRb]
    exact ⟨(Below.refl _ _).alloc (Nat.le_refl _) _, heap_alloc_new _ _ rfl, Nat.le_refl _⟩
  obtain ⟨PL, hPL⟩ : ∃ PL, PL = pnl pins d := ⟨_, rfl⟩
  obtain ⟨S, hS⟩ : ∃ S, S = sortK nw := ⟨_, rfl⟩
  obtain ⟨dn, hdn⟩ : ∃ dn, dn = d.length := ⟨_, rfl⟩
  obtain ⟨kn, hkn⟩ : ∃ kn, kn = S.length := ⟨_, rfl⟩
  have hkn2 : kn ≤ 65536 := by
    have h1 := h.nwl
    have h2 := h.skl
    rw [hkn, hS]
    omega
  have HL : Hid (∀ W, Below w.heap.size w W → Calls Try.prog 18 #[ptr B] W fun e w' => e = .returned (.int .i64 la) ∧ w' = W) := fun W hW => latest_any W B Mp Mc Mn cap la fl pins all nw (h.kept hW)
  have HP : Hid (∀ W, Below w.heap.size w W → Calls Try.prog 23 #[ptr B] W fun e w' => ∃ ka kc, e = .returned (.slice ka dn kc) ∧ w'.ownsRow W.heap.size 72 2 (.slice ka dn kc) PL.length (pns PL) ∧ Below W.heap.size W w') := fun W hW => by rw [hPL]; exact tell_pinsO (h.kept hW) d hd1 (fun x => hd.mem_iff) dn hdn
  have HK : Hid (∀ W, Below w.heap.size w W → Calls Try.prog 22 #[ptr B] W fun e w' => ∃ ka kc, e = .returned (.slice ka kn kc) ∧ OwnK w' W.heap.size (.slice ka kn kc) S ∧ Below W.heap.size W w') := fun W hW => tell_keysO (h.kept hW) S hS.symm kn hkn
  have HV : Hid (∀ W, Below w.heap.size w W → ∀ k ∈ S, Calls Try.prog 24 #[ptr B, kv k] W fun e w' => ∃ ka kc, e = .returned (.slice ka (ofV k all).length kc) ∧ KeysAt w' ka (plk (ofV k all)) ∧ Below W.heap.size W w') := fun W hW k hk => tell_vers (h.kept hW) k (h.nkin k (by rw [← hS]; exact hk)) _ rfl _ rfl
  have HVl : Hid (∀ k, (ofV k all).length ≤ 65536) := fun k => by
    have h1 : (ofV k all).length ≤ all.length := List.length_filter_le _ _
    have := h.ln
    have := h.cp
    show _ ≤ _
    omega
  have HN := hidC hkn
  rw [← hPL, ← hS]
  clear h hd1 hd hPL hS hdn hkn
  go_enter Try.func28, Try.ntmps28
  go_wp2_with fail
  rw [← hW1, ← hRb]
  clear hW1 hRb
  refine (HL.out W1 HB1.out.1).mono ?_
  rintro e X ⟨rfl, hX⟩
  have hX' := hX.symm
  subst hX'
  clear hX HL
  go_wp2_with fail
  refine (HP.out W1 HB1.out.1).mono ?_
  rintro e W2 ⟨pa, pc, rfl, hrow, hb2⟩
  obtain ⟨W3, hW3⟩ : ∃ W3, W3 = W2.alloc (.cells #[.int .i64 la, .slice pa dn pc, .slice none 0 0] 27) := ⟨_, rfl⟩
  obtain ⟨Ob, hOb⟩ : ∃ Ob, Ob = W2.heap.size := ⟨_, rfl⟩
  have HB3 : Hid (Below w.heap.size w W3 ∧ W3.heap[Rb]? = some (.cells #[.int .i64 0, .slice none 0 0, .slice none 0 0] 27 (0, 0)) ∧ CpB W3 w.heap.size Ob la (.slice pa dn pc) (.slice none 0 0) PL [] ∧ Rb ≠ Ob) := by
    have h1 := HB1.out
    have hb := h1.1.trans (hb2.mono h1.1.size)
    have hR2 : W2.heap[Rb]? = _ := (hb2.block Rb (blk_lt h1.2.1)).trans h1.2.1
    have hb3 : Below W2.heap.size W2 W3 := by rw [hW3]; exact (Below.refl _ _).alloc (Nat.le_refl _) _
    refine ⟨hb.trans (hb3.mono hb.size), (hb3.block Rb (blk_lt hR2)).trans hR2, ⟨by rw [hW3, hOb]; exact heap_alloc_new _ _ rfl, ?_, World.ownsRow_nil _ _ _ _, by simp, by rw [hOb]; exact hb.size⟩, fun e => by have := blk_lt hR2; omega⟩
    exact rowBase (rowSame hrow (fun g hg => hb3.block g (World.ownsRow.lt hrow g hg).2)) h1.1.size
  have HRl := hidC HB1.out.2.2
  clear hrow hb2 HP HB1
  go_wp2_with fail
  rw [← hW3, ← hOb]
  clear hW3 hOb
  refine (HK.out W3 HB3.out.1).mono ?_
  rintro e W4 ⟨ka, kc, rfl, hka, hb4⟩
  have HB4 : Hid (CpB W4 w.heap.size Ob la (.slice pa dn pc) (.slice none 0 0) PL [] ∧ W4.heap[Rb]? = some (.cells #[.int .i64 0, .slice none 0 0, .slice none 0 0] 27 (0, 0)) ∧ Below w.heap.size w W4 ∧ OwnK W4 w.heap.size (.slice ka kn kc) S) := by
    have h1 := HB3.out
    exact ⟨h1.2.2.1.kept hb4, (hb4.block Rb (blk_lt h1.2.1)).trans h1.2.1, h1.1.trans (hb4.mono h1.1.size), hka.mono h1.1.size⟩
  have HNe := hidC (And.intro HB3.out.2.2.2 HRl.out)
  clear hka hb4 HK HB3 HRl
  go_wp2_with fail
  go_loopw [5, 6, 7, 8] (fun y _ _ _ wr => ∃ i : Nat, i ≤ kn ∧ y = .int .i64 (i : Int) ∧ ShI w Ob Rb la (.slice pa dn pc) (.slice ka kn kc) PL S all i wr) (fun y _ _ _ _ => kn - (intOf y).toNat)
  case atStart => exact ⟨0, Nat.zero_le _, rfl, _, [], HB4.out.1, HB4.out.2.1, HB4.out.2.2.1, HB4.out.2.2.2, rfl⟩
  case round =>
    clear HB4
    obtain ⟨i, hi, rfl, cv, ds, hI⟩ := hrel
    have HI := hidC hI
    clear hI
    obtain ⟨wo, hwo⟩ : ∃ wo, wo = wr := ⟨_, rfl⟩
    subst hwo
    by_cases hlt : i < kn
    · have hil : i < S.length := by have := HN.out; omega
      have hmem : kd S i ∈ S := kd_mem hil
      have HTk : Hid (S.take (i + 1) = S.take i ++ [kd S i]) := by
        show _ = _
        rw [List.take_succ_eq_append_getElem hil]
        have := kd_get hil
        rw [List.getElem?_eq_getElem hil] at this
        rw [Option.some.inj this]
      obtain ⟨ka', kc', hkv, hka', _, _⟩ := HI.out.2.2.2.1.slice
      simp only [Value.slice.injEq] at hkv
      have hka2 := hkv.1
      subst hka2
      clear hkv
      obtain ⟨b, off, hao, e0, e1⟩ := KeysAt.get2 hka' i hil
      subst hao
      have HV1 := hidC (HV.out wo HI.out.2.2.1 _ hmem)
      have hvl := HVl.out (kd S i)
      obtain ⟨l, hl⟩ : ∃ l, l = ofV (kd S i) all := ⟨_, rfl⟩
      have HLl := hidC hl
      rw [← hl] at HV1 hvl
      obtain ⟨vn, hvn⟩ : ∃ vn, vn = l.length := ⟨_, rfl⟩
      have HVn := hidC hvn
      rw [← hvn] at HV1 hvl
      have HKp : Hid (∀ W, Below wo.heap.size wo W → W.cell? ⟨b, off + i * 2, none⟩ = some (.int .i64 (kd S i).1) ∧ W.cell? ⟨b, off + i * 2 + 1, none⟩ = some (.int .i64 (kd S i).2)) := fun W hW => ⟨(hW.cell (p := ⟨b, off + i * 2, none⟩) (cell_lt e0)).trans e0, (hW.cell (p := ⟨b, off + i * 2 + 1, none⟩) (cell_lt e1)).trans e1⟩
      generalize kd S i = kk at *
      obtain ⟨k1, k2⟩ := kk
      simp only [kv] at HV1
      simp only at e0 e1 HKp
      clear hmem hl hvn
      go_wp2_with fail
      clear e0 e1
      refine HV1.out.mono ?_
      rintro e W5 ⟨va, vc, rfl, hva, hb5⟩
      have HB5 := hidC hb5
      have HVa := hidC hva
      obtain ⟨e0, e1⟩ := HKp.out W5 hb5
      obtain ⟨W6, hW6⟩ : ∃ W6, W6 = W5.alloc (.cells #[.int .i64 k1, .int .i64 k2, .slice none 0 0] 75) := ⟨_, rfl⟩
      obtain ⟨Cb, hCb⟩ : ∃ Cb, Cb = W5.heap.size := ⟨_, rfl⟩
      have HT6 : Hid (TcB W6 W5.heap.size Cb (k1, k2) (.slice none 0 0) [] ∧ Below W5.heap.size W5 W6) := by
        rw [hW6, hCb]
        exact ⟨⟨heap_alloc_new _ _ rfl, World.ownsRow_nil _ _ _ _, Nat.le_refl _⟩, (Below.refl _ _).alloc (Nat.le_refl _) _⟩
      clear hva hb5 HV1
      go_wp2_with fail
      rw [← hW6, ← hCb]
      clear hW6 hCb e0 e1
      go_loopw [8] (fun y wr => ∃ (j : Nat) (vv : Value), j ≤ vn ∧ y = .int .i64 (j : Int) ∧ Hid (TcB wr W5.heap.size Cb (k1, k2) vv (stps (l.take j)) ∧ Below W5.heap.size W5 wr)) (fun y _ => vn - (intOf y).toNat)
      case atStart => exact ⟨0, _, Nat.zero_le _, rfl, HT6.out⟩
      case round =>
        clear HT6
        obtain ⟨j, vv, hj, rfl, HJ⟩ := hrel
        by_cases hlj : j < vn
        · have hjl : j < l.length := by have := HVn.out; omega
          obtain ⟨bv, offv, hav, f0, f1⟩ := KeysAt.get2 (HVa.out.kept HJ.out.2) j (by simpa [plk] using hjl)
          subst hav
          have hkd : kd (plk l) j = l[j].2 := by simp [kd, plk, List.getD_eq_getElem?_getD, hjl]
          have hsn : stps (l.take (j + 1)) = stps (l.take j) ++ [⟨(kd (plk l) j).1, (kd (plk l) j).2, false, 0⟩] := by
            unfold stps
            rw [List.take_succ_eq_append_getElem hjl, hkd, List.map_append]
            rfl
          have hlen : (stps (l.take j)).length = j := by simp [stps]; omega
          generalize kd (plk l) j = pp at *
          obtain ⟨p1, p2⟩ := pp
          simp only at f0 f1 hsn
          obtain ⟨V, hV⟩ : ∃ V, V = wr.drew.alloc (.cells #[.int .i64 p1, .int .i64 p2, .bool false, .int .i64 0] 112) := ⟨_, rfl⟩
          have hbV : Below wr.heap.size wr V := by
            rw [hV]
            exact (drew_below wr 1).alloc (drew_below wr 1).size _
          have hTV := HJ.out.1.kept hbV
          have hcs : CsAt (wr.heap.size + 1) V (some ⟨wr.heap.size, 0, none⟩) [.int .i64 p1, .int .i64 p2, .bool false, .int .i64 0] := by rw [hV]; exact CsAt.new wr.drew _ _
          obtain ⟨v2, w2, y1, y2, y3, y4⟩ := akStp.app (w := V) 73 W5.heap.size vv _ _ hTV.rv (wr.heap.size + 1) (some ⟨wr.heap.size, 0, none⟩) 1 1 [.int .i64 p1, .int .i64 p2, .bool false, .int .i64 0] rfl hcs (by simp) (by intro u hu; simp at hu; rcases hu with rfl | rfl | rfl | rfl <;> rfl) (by omega) (by omega) (by have := HJ.out.2.size; have := hbV.size; omega)
          obtain ⟨a2, n2, c2, rfl⟩ := rowOpen y2
          have y2' : w2.ownsRow W5.heap.size 112 4 (.slice a2 n2 c2) ((stps (l.take j)).length + 1) (scs (stps (l.take j) ++ [⟨p1, p2, false, 0⟩])) := by
            rw [scs_append]
            exact y2
          obtain ⟨⟨g1, g2⟩, hTf⟩ := hTV.put y2' y3 y4
          have HJn : Hid (TcB (w2.setCell ⟨Cb, 2, none⟩ (.slice a2 n2 c2)) W5.heap.size Cb (k1, k2) (.slice a2 n2 c2) (stps (l.take (j + 1))) ∧ Below W5.heap.size W5 (w2.setCell ⟨Cb, 2, none⟩ (.slice a2 n2 c2))) := by
            have hb5V : Below W5.heap.size W5 V := HJ.out.2.trans (hbV.mono HJ.out.2.size)
            refine ⟨by rw [hsn]; exact hTf, ?_⟩
            exact (hb5V.grown y3 hb5V.size (fun k e => (World.ownsRow.lt hTV.rv k e).1)).setCell (p := ⟨Cb, 2, none⟩) hTV.le _
          have q1 := HJ.out.1.cells.2.2
          have q3 : ∀ o, (wr.drew.alloc o).cell? ⟨Cb, 2, none⟩ = some vv := fun o => Lib.cell?_alloc_some _ q1
          have q4 : ∀ o, (wr.alloc o).cell? ⟨Cb, 2, none⟩ = some vv := fun o => Lib.cell?_alloc_some _ q1
          rw [hV] at y1
          clear hTV hbV hcs y2 y2' y3 y4 hTf hV hsn hlen hkd
          simp [go_sem] at y1
          go_wp2_with fail
          go_region
          clear y1 q1 q3 q4 g1 g2 f0 f1
          go_wp2
          exact ⟨⟨j + 1, _, by omega, by go_num, HJn.out⟩, by simp [intOf]; omega⟩
        · have hje : j = vn := by omega
          subst hje
          obtain ⟨av, mv, cvv, rfl⟩ := rowOpen HJ.out.1.rv
          obtain ⟨t0, t1, t2⟩ := HJ.out.1.cells
          have hbw : Below wo.heap.size wo wr := HB5.out.trans (HJ.out.2.mono HB5.out.size)
          have hC := HI.out.1.kept hbw
          have q1 := hC.cells.2.2
          have q4 : ∀ o, (wr.alloc o).cell? ⟨Ob, 2, none⟩ = some cv := fun o => Lib.cell?_alloc_some _ q1
          have hdl : ds.length = i := by
            have h1 := congrArg List.length HI.out.2.2.2.2
            simp [kl] at h1
            omega
          have HApp : Hid (∀ ty, ∃ v' w', (Builtin.append_ #[25, 25] ty #[cv, .slice (some ⟨wr.heap.size, 0, none⟩) 1 1]).run Try.prog (wr.alloc (.cells #[.int .i64 k1, .int .i64 k2, .slice av mv cvv] 75)) = .ok v' w' ∧ ((∃ a n c, v' = .slice a n c) ∧ (w'.cell? ⟨Ob, 2, none⟩ = some cv ∧ w'.frozen? ⟨Ob, 2, none⟩ = false) ∧ Hid (∃ ds', CpB (w'.setCell ⟨Ob, 2, none⟩ v') w.heap.size Ob la (.slice pa dn pc) v' PL ds' ∧ (w'.setCell ⟨Ob, 2, none⟩ v').heap[Rb]? = some (.cells #[.int .i64 0, .slice none 0 0, .slice none 0 0] 27 (0, 0)) ∧ Below w.heap.size w (w'.setCell ⟨Ob, 2, none⟩ v') ∧ OwnK (w'.setCell ⟨Ob, 2, none⟩ v') w.heap.size (.slice (some ⟨b, off, none⟩) kn kc) S ∧ kl ds' = (S.take (i + 1)).map (fun k => (k, stps (ofV k all)))))) := fun ty => by
            obtain ⟨V, hV⟩ : ∃ V, V = wr.alloc (.cells #[.int .i64 k1, .int .i64 k2, .slice av mv cvv] 75) := ⟨_, rfl⟩
            rw [← hV]
            have hbV : Below wr.heap.size wr V := by rw [hV]; exact (Below.refl _ _).alloc (Nat.le_refl _) _
            have hCV := hC.kept hbV
            have hbwV : Below w.heap.size w V := by
              have h1 := HI.out.2.2.1.trans (hbw.mono HI.out.2.2.1.size)
              exact h1.trans (hbV.mono h1.size)
            have hcs : CsAt (wr.heap.size + 1) V (some ⟨wr.heap.size, 0, none⟩) [.int .i64 k1, .int .i64 k2, .slice av mv cvv] := by rw [hV]; exact CsAt.new wr _ _
            obtain ⟨v2, w2, y1, y2, y3, y4⟩ := akCh.app (w := V) ty w.heap.size cv _ _ hCV.rc (wr.heap.size + 1) (some ⟨wr.heap.size, 0, none⟩) 1 1 [.int .i64 k1, .int .i64 k2, .slice av mv cvv] rfl hcs (by simp) (by intro u hu; simp at hu; rcases hu with rfl | rfl | rfl <;> rfl) (by omega) (by omega) hbwV.size
            have htl : stps (l.take j) = stps l := by rw [HVn.out, List.take_length]
            have hrv := HJ.out.1.rv
            rw [htl] at hrv
            obtain ⟨em, _⟩ := rowCs hrv
            have hrv2 : V.ownsRow w.heap.size 112 4 (.slice av (stps l).length cvv) (stps l).length (scs (stps l)) := by
              have h1 := rowBase (rowSame hrv (fun g hg => hbV.block g (World.ownsRow.lt hrv g hg).2)) (base' := w.heap.size) (by have := HI.out.2.2.1.size; have := HB5.out.size; omega)
              rw [em] at h1
              exact h1
            have y2' : w2.ownsRow w.heap.size 75 3 v2 (ds.length + 1) (ccs (ds ++ [⟨(k1, k2), av, cvv, stps l⟩])) := by
              rw [ccs_append]
              have e9 : ccs [⟨(k1, k2), av, cvv, stps l⟩] = [.int .i64 k1, .int .i64 k2, .slice av mv cvv] := by rw [em]; rfl
              rw [e9]
              exact y2
            obtain ⟨⟨g1, g2⟩, hCf⟩ := hCV.put (c := ⟨(k1, k2), av, cvv, stps l⟩) hrv2 y2' y3 y4
            have hb2 : Below w.heap.size w (w2.setCell ⟨Ob, 2, none⟩ v2) := (hbwV.grown y3 hbwV.size (fun k e => (World.ownsRow.lt hCV.rc k e).1)).setCell (p := ⟨Ob, 2, none⟩) hCV.le _
            have hkeep : ∀ {k : Nat} {cur : Array Value} {T : TypeId}, T ≠ 75 → V.heap[k]? = some (.cells cur T (0, 0)) → k ≠ Ob → (w2.setCell ⟨Ob, 2, none⟩ v2).heap[k]? = some (.cells cur T (0, 0)) := fun {k cur T} hT hk hne => by
              refine (heap_setCell_other _ _ _ _ (fun e => hne e)).trans ((y3.block k (blk_lt hk) (fun e => ?_)).trans hk)
              obtain ⟨cur', hc'⟩ := rowBlock hCV.rc e.symm
              rw [hk] at hc'
              cases hc'
              exact hT rfl
            have hRV : V.heap[Rb]? = _ := (hbV.block Rb (Nat.lt_of_lt_of_le (blk_lt HI.out.2.1) hbw.size)).trans ((hbw.block Rb (blk_lt HI.out.2.1)).trans HI.out.2.1)
            refine ⟨v2, w2, y1, rowOpen y2, ⟨g1, g2⟩, _, hCf, hkeep (by decide) hRV HNe.out.1, hb2, ?_, ?_⟩
            · have hK := HI.out.2.2.2.1
              refine rowSame hK (fun g hg => ?_)
              obtain ⟨cur, hc⟩ := rowBlock hK hg
              have hcV : V.heap[g]? = _ := (hbV.block g (Nat.lt_of_lt_of_le (blk_lt hc) hbw.size)).trans ((hbw.block g (blk_lt hc)).trans hc)
              rw [hkeep (by decide) hcV (fun e => ?_), hc]
              have hob := HI.out.1.ob
              rw [← e, hc] at hob
              cases hob
            · rw [kl_snoc, HI.out.2.2.2.2, HTk.out, List.map_append, HLl.out]
              rfl
          clear hC hbw
          go_wp2_with (at_builtin; refine wpL_appI rfl _ _ 25 rfl cv (.slice (some ⟨wr.heap.size, 0, none⟩) 1 1) rfl rfl HApp.out ?_; rintro v' w2 ⟨⟨a2, n2, c2, rfl⟩, ⟨hc2, hf2⟩, HC2⟩)
          clear HApp t0 t1 t2 q1 q4
          have HZ : Hid (ShI w Ob Rb la (.slice pa dn pc) (.slice (some ⟨b, off, none⟩) kn kc) PL S all (i + 1) (w2.setCell ⟨Ob, 2, none⟩ (.slice a2 n2 c2))) := ⟨_, HC2.out⟩
          clear HC2
          go_wp2
          exact ⟨⟨i + 1, by omega, by go_num, HZ.out⟩, by simp [intOf]; omega⟩
    · have hie : i = kn := by omega
      subst hie
      obtain ⟨ca', cn', cc', rfl⟩ := rowOpen HI.out.1.rc
      have HC := hidC HI.out.1
      obtain ⟨o0, o1, o2⟩ := HI.out.1.cells
      have hRb := HI.out.2.1
      have r0 : wo.cell? ⟨Rb, 0, none⟩ = some (.int .i64 0) := by simp [World.cell?, hRb]
      have r1 : wo.cell? ⟨Rb, 1, none⟩ = some (.slice none 0 0) := by simp [World.cell?, hRb]
      have r2 : wo.cell? ⟨Rb, 2, none⟩ = some (.slice none 0 0) := by simp [World.cell?, hRb]
      have f0 : wo.frozen? ⟨Rb, 0, none⟩ = false := frozen_of_row _ _ _ _ _ hRb
      have f1 : wo.frozen? ⟨Rb, 1, none⟩ = false := frozen_of_row _ _ _ _ _ hRb
      have f2 : wo.frozen? ⟨Rb, 2, none⟩ = false := frozen_of_row _ _ _ _ _ hRb
      obtain ⟨F, hF⟩ : ∃ F, F = ((wo.setCell ⟨Rb, 0, none⟩ (.int .i64 la)).setCell ⟨Rb, 1, none⟩ (.slice pa dn pc)).setCell ⟨Rb, 2, none⟩ (.slice ca' cn' cc') := ⟨_, rfl⟩
      have HX : Hid (F.heap[Rb]? = some (.cells #[.int .i64 la, .slice pa dn pc, .slice ca' cn' cc'] 27 (0, 0)) ∧ ShotPost w la PL S all (.returned (.agg #[.int .i64 la, .slice pa dn pc, .slice ca' cn' cc'])) F) := by
        have t0 := heap_setCell_same wo Rb 0 _ _ (.int .i64 la) hRb
        have t1 := heap_setCell_same _ Rb 1 _ _ (.slice pa dn pc) t0
        have t2 := heap_setCell_same _ Rb 2 _ _ (.slice ca' cn' cc') t1
        have hs : ∀ k, k ≠ Rb → F.heap[k]? = wo.heap[k]? := fun k hk => by
          rw [hF, heap_setCell_other _ _ _ _ (fun e => hk e), heap_setCell_other _ _ _ _ (fun e => hk e), heap_setCell_other _ _ _ _ (fun e => hk e)]
        have hrow : ∀ {T : TypeId} {sz n : Nat} {v : Value} {xs : List Value}, T ≠ 27 → wo.ownsRow w.heap.size T sz v n xs → F.ownsRow w.heap.size T sz v n xs := fun h1 hr => rowSame hr (fun g hg' => hs g (fun e => by
          obtain ⟨cur, hc⟩ := rowBlock hr hg'
          rw [e, hRb] at hc; cases hc; exact h1 rfl))
        have hCF : CpB F w.heap.size Ob la (.slice pa dn pc) (.slice ca' cn' cc') PL ds := by
          have h1 := HC.out
          exact ⟨(hs Ob (fun e => HNe.out.1 e.symm)).trans h1.ob, hrow (by decide) h1.rp, hrow (by decide) h1.rc, fun c hc => hrow (by decide) (h1.rv c hc), h1.le⟩
        have hbF : Below w.heap.size w F := by
          rw [hF]
          have hR : w.heap.size ≤ Rb := HNe.out.2
          exact ((HI.out.2.2.1.setCell (p := ⟨Rb, 0, none⟩) (by simp; omega) _).setCell (p := ⟨Rb, 1, none⟩) (by simp; omega) _).setCell (p := ⟨Rb, 2, none⟩) (by simp; omega) _
        have hkl := HI.out.2.2.2.2
        rw [HN.out, List.take_length] at hkl
        obtain ⟨s', e1, e2, e3, e4, e5, _, _, e6⟩ := hCF.fin (s := ⟨la, none, 0, PL, none, 0, S.map (fun k => ⟨k, none, 0, stps (ofV k all)⟩)⟩) rfl rfl (by rw [hkl]; simp [kl, List.map_map, Function.comp_def]) hbF
        refine ⟨by rw [hF]; exact t2, s', e1, ⟨e2, e3, by rw [e4]; simp [kl, List.map_map, Function.comp_def]⟩, e5, e6⟩
      clear HI HC hRb
      go_wp2
      rw [← hF]
      clear hF
      have hFb := HX.out.1
      have s0 : F.cell? ⟨Rb, 0, none⟩ = some (.int .i64 la) := by simp [World.cell?, hFb]
      have s1 : F.cell? ⟨Rb, 1, none⟩ = some (.slice pa dn pc) := by simp [World.cell?, hFb]
      have s2 : F.cell? ⟨Rb, 2, none⟩ = some (.slice ca' cn' cc') := by simp [World.cell?, hFb]
      refine bodyPost_ret (v := .agg #[.int .i64 la, .slice pa dn pc, .slice ca' cn' cc']) ?_ rfl HX.out.2
      simp [results, Try.f28, go_sem, s0, s1, s2]
end Go.Proofs.Ytibdogniiglcjab
/-
  TWO BOOKS IN TWO VARIABLES.
-/
namespace Go.Proofs.Ytibdogniiglcjab
open Go.RowKit Go.Sort

structure Ap2 (n0 B Mp Mc Mn C Np Nc Nn : Nat) : Prop where
  ap : ∀ k, SB B Mp Mc Mn k → ¬ SB C Np Nc Nn k
  s1 : ∀ k, SB B Mp Mc Mn k → n0 ≤ k
  s2 : ∀ k, SB C Np Nc Nn k → n0 ≤ k
structure TwB (w : World) (B Mp Mc Mn C Np Nc Nn : Nat) (cap : Int) (s t : Bs) (wr : World) : Prop where
  b1 : ∃ nw, BA wr B Mp Mc Mn cap s.la s.fl s.pins s.all nw
  b2 : ∃ nv, BA wr C Np Nc Nn cap t.la t.fl t.pins t.all nv
  bw : Below w.heap.size w wr
section
variable {w : World} {B Mp Mc Mn C Np Nc Nn : Nat} {cap : Int} {s t s' t' : Bs} {wr wr' : World}
theorem TwB.kept (h : TwB w B Mp Mc Mn C Np Nc Nn cap s t wr) (hb : Below wr.heap.size wr wr') : TwB w B Mp Mc Mn C Np Nc Nn cap s t wr' := by
  obtain ⟨nw, h1⟩ := h.b1
  obtain ⟨nv, h2⟩ := h.b2
  exact ⟨⟨nw, h1.kept hb⟩, ⟨nv, h2.kept hb⟩, h.bw.trans (hb.mono h.bw.size)⟩
theorem TwB.fr1 (h : TwB w B Mp Mc Mn C Np Nc Nn cap s t wr) (ha : Ap2 w.heap.size B Mp Mc Mn C Np Nc Nn) (hb : ∃ nw, BA wr' B Mp Mc Mn cap s'.la s'.fl s'.pins s'.all nw) (hf : Fr (SB B Mp Mc Mn) wr wr') : TwB w B Mp Mc Mn C Np Nc Nn cap s' t wr' := by
  obtain ⟨nv, h5⟩ := h.b2
  exact ⟨hb, ⟨nv, h5.same (fun k hk => hf.block k (h5.lt hk) (fun hs => ha.ap k hs hk))⟩, h.bw.trans (hf.below h.bw.size ha.s1)⟩
theorem TwB.fr2 (h : TwB w B Mp Mc Mn C Np Nc Nn cap s t wr) (ha : Ap2 w.heap.size B Mp Mc Mn C Np Nc Nn) (hb : ∃ nw, BA wr' C Np Nc Nn cap t'.la t'.fl t'.pins t'.all nw) (hf : Fr (SB C Np Nc Nn) wr wr') : TwB w B Mp Mc Mn C Np Nc Nn cap s t' wr' := by
  obtain ⟨nw, h5⟩ := h.b1
  exact ⟨⟨nw, h5.same (fun k hk => hf.block k (h5.lt hk) (fun hs => ha.ap k hk hs))⟩, hb, h.bw.trans (hf.below h.bw.size ha.s2)⟩
end
/-- what an Admit answers -/
structure AdmR (cap : Int) (o : Oc) (s s' : Bs) (x E : Int) : Prop where
  e : E = admE cap s.la s.all o.L
  x : x = if E = 0 then s.la + 1 else 0
  d : ∃ r, DoR cap o s s' r
theorem AdmR.same {cap : Int} {o : Oc} {s s' t t' : Bs} {x E y F : Int} (h : AdmR cap o s s' x E) (h2 : AdmR cap o t t' y F) (he : Eqv s t) (hs : (s.pins.map Prod.fst).Nodup) (ht : (t.pins.map Prod.fst).Nodup) : y = x ∧ F = E ∧ Eqv s' t' := by
  have hadm : admE cap s.la s.all o.L = admE cap t.la t.all o.L := by unfold admE; rw [he.la, he.len]
  have e1 : F = E := by rw [h.e, h2.e, hadm]
  obtain ⟨r, hr⟩ := h.d
  obtain ⟨r2, hr2⟩ := h2.d
  refine ⟨?_, e1, (he.call hs ht hr hr2).2⟩
  rw [h.x, h2.x, e1, he.la]
theorem admR_any (w : World) (B Mp Mc Mn : Nat) (cap : Int) (s : Bs) (nw : List K) (h : BA w B Mp Mc Mn cap s.la s.fl s.pins s.all nw) (o : Oc) (ho : OcOK o) (hk : o.kind = 0) (ao : Option Addr) (n c : Nat) (hn : n = o.L.length) (hw : RWs (SB B Mp Mc Mn) w ao o.L) :
    Calls Try.prog 13 #[ptr B, .slice ao n c] w fun e w' => ∃ x E s', e = .returned (.tuple #[.int .i64 x, .int .i64 E]) ∧ AdmR cap o s s' x E ∧ (∃ nw, BA w' B Mp Mc Mn cap s'.la s'.fl s'.pins s'.all nw) ∧ Fr (SB B Mp Mc Mn) w w' := by
  refine (admit_any w B Mp Mc Mn cap s.la s.fl s.pins s.all nw h ao n c o.L hn hw ho.ik (fun s hs => Nat.le_trans (ho.each s hs) (by omega)) (by have := ho.len; omega)).mono ?_
  rintro e w' (⟨hne, rfl, hb⟩ | ⟨heq, rfl, hba, hf⟩)
  · exact ⟨0, _, s, rfl, ⟨rfl, by rw [if_neg hne], true, .admNo hk hne⟩, ⟨nw, h.kept hb⟩, Fr.ofBelow hb⟩
  · exact ⟨_, 0, ⟨s.la + 1, s.fl, s.pins, s.all ++ newFrom (s.la + 1) 0 o.L⟩, rfl, ⟨heq.symm, by rw [if_pos rfl], false, .admYes hk heq⟩, hba, hf⟩
structure ColR (cap : Int) (o : Oc) (s s' : Bs) (x : Int) : Prop where
  x : x = (s.all.length : Int) - (s'.all.length : Int)
  d : DoR cap o s s' false
theorem ColR.same {cap : Int} {o : Oc} {s s' t t' : Bs} {x y : Int} (h : ColR cap o s s' x) (h2 : ColR cap o t t' y) (he : Eqv s t) (hs : (s.pins.map Prod.fst).Nodup) (ht : (t.pins.map Prod.fst).Nodup) : y = x ∧ Eqv s' t' := by
  have h3 := (he.call hs ht h.d h2.d).2
  exact ⟨by rw [h.x, h2.x, he.len, h3.len], h3⟩
theorem colR_any (w : World) (B Mp Mc Mn : Nat) (cap : Int) (s : Bs) (nw : List K) (h : BA w B Mp Mc Mn cap s.la s.fl s.pins s.all nw) (o : Oc) (hk : o.kind = 3) :
    Calls Try.prog 15 #[ptr B] w fun e w' => ∃ x s', e = .returned (.int .i64 x) ∧ ColR cap o s s' x ∧ (∃ nw, BA w' B Mp Mc Mn cap s'.la s'.fl s'.pins s'.all nw) ∧ Fr (SB B Mp Mc Mn) w w' := by
  refine (collect_any w B Mp Mc Mn cap s.la s.fl s.pins s.all nw h).mono ?_
  rintro e w' ⟨d, all', hd1, hd2, hc, rfl, hba, hf⟩
  exact ⟨_, ⟨s.la, s.la, s.pins, all'⟩, rfl, ⟨rfl, .coll d all' hk hd1 hd2 hc⟩, ⟨nw, hba⟩, hf⟩
end Go.Proofs.Ytibdogniiglcjab
/-
  BookBack: THE LAW.
-/
namespace Go.Proofs.Ytibdogniiglcjab
open Go.RowKit Go.Sort

def BcPost (w : World) (e : Ending) (w' : World) : Prop := e = .returned (.bool true) ∧ Below w.heap.size w w'
set_option maxHeartbeats 8000000 in
set_option maxRecDepth 100000 in
theorem lawBkBack (w : World) (cap : Int) (rs : Bool) (s : Sn) (hs : SnAt w.heap.size w s) (hsi : SnIn s) (ao : Option Addr) (n c : Nat) (os : List Oc) (hn : n = os.length) (hops : OpsAt (fun k => w.heap.size ≤ k) w ao os) (hin : OpsIn os) (hnb : n ≤ 140737488351232)
    (ao2 : Option Addr) (n2 c2 : Nat) (os2 : List Oc) (hn2 : n2 = os2.length) (hops2 : OpsAt (fun k => w.heap.size ≤ k) w ao2 os2) (hin2 : OpsIn os2) (hnb2 : n2 ≤ 140737488351232) :
    Calls Try.prog 6 #[mdv cap rs s, .slice ao n c, .slice ao2 n2 c2] w fun e w' => BcPost w e w' := by
  obtain ⟨pn, hpn⟩ : ∃ pn, pn = s.pins.length := ⟨_, rfl⟩
  obtain ⟨cn, hcn⟩ : ∃ cn, cn = s.chs.length := ⟨_, rfl⟩
  obtain ⟨pa, hpa⟩ : ∃ pa, pa = s.pa := ⟨_, rfl⟩
  obtain ⟨ca, hca⟩ : ∃ ca, ca = s.ca := ⟨_, rfl⟩
  obtain ⟨pc, hpc⟩ : ∃ pc, pc = s.pc := ⟨_, rfl⟩
  obtain ⟨cc, hcc⟩ : ∃ cc, cc = s.cc := ⟨_, rfl⟩
  obtain ⟨la, hla⟩ : ∃ la, la = s.la := ⟨_, rfl⟩
  have hmv : mdv cap rs s = .agg #[.int .i64 cap, .bool rs, .int .i64 la, .slice pa pn pc, .slice ca cn cc] := by rw [hla, hpa, hpn, hpc, hca, hcn, hcc]; rfl
  obtain ⟨W1, hW1⟩ : ∃ W1, W1 = w.alloc (.cells #[.int .i64 cap, .bool rs, .int .i64 la, .slice pa pn pc, .slice ca cn cc] 29) := ⟨_, rfl⟩
  obtain ⟨Kb, hKb⟩ : ∃ Kb, Kb = w.heap.size := ⟨_, rfl⟩
  have HB : Hid (Below w.heap.size w W1 ∧ W1.heap[Kb]? = some (.cells #[.int .i64 cap, .bool rs, .int .i64 la, .slice pa pn pc, .slice ca cn cc] 29 (0, 0))) := by
    rw [hW1, hKb]
    exact ⟨(Below.refl _ _).alloc (Nat.le_refl _) _, heap_alloc_new _ _ rfl⟩
  have HK : Hid (∀ W, Below W1.heap.size W1 W → W.cell? ⟨Kb, 0, none⟩ = some (.int .i64 cap) ∧ W.cell? ⟨Kb, 1, none⟩ = some (.bool rs) ∧ W.cell? ⟨Kb, 2, none⟩ = some (.int .i64 la) ∧ W.cell? ⟨Kb, 3, none⟩ = some (.slice pa pn pc) ∧ W.cell? ⟨Kb, 4, none⟩ = some (.slice ca cn cc)) := fun W hW => by
    have h4 : W.heap[Kb]? = _ := (hW.block _ (blk_lt HB.out.2)).trans HB.out.2
    refine ⟨?_, ?_, ?_, ?_, ?_⟩ <;> simp [World.cell?, h4]
  have HS : Hid (∀ W, Below w.heap.size w W → SnAt w.heap.size W s) := fun W hW => hs.below hW
  have HO : Hid (∀ W, Below w.heap.size w W → OpsAt (fun k => w.heap.size ≤ k) W ao os) := fun W hW => hops.fr ⟨hW.os, hW.tape, hW.output, hW.size, fun k hk _ => hW.block k hk⟩
  have HO2 : Hid (∀ W, Below w.heap.size w W → OpsAt (fun k => w.heap.size ≤ k) W ao2 os2) := fun W hW => hops2.fr ⟨hW.os, hW.tape, hW.output, hW.size, fun k hk _ => hW.block k hk⟩
  have HBw : Hid (∀ W, Below W1.heap.size W1 W → Below w.heap.size w W) := fun W hW => HB.out.1.trans (hW.mono HB.out.1.size)
  have HP3 : Hid (∀ X, Below W1.heap.size W1 X → Calls Try.prog 8 #[.agg #[.int .i64 cap, .bool rs, .int .i64 la, .slice pa pn pc, .slice ca cn cc], .slice ao n c] X fun e w' => ∃ r, e = .returned (.int .i64 r) ∧ PartsO pn (s.chs.map (fun c => c.l.length)) os r ∧ Below X.heap.size X w') := fun X hX => by
    have hch : ChsAt X ca (s.chs.map (fun c => c.l.length)) := by rw [hca]; exact (HS.out X (HBw.out X hX)).chs hsi.nv
    exact partsO_any _ X cap rs la pa pn pc ca cn cc _ ao n c os (by rw [List.length_map]; exact hcn) hn hch (HO.out X (HBw.out X hX)) (by rw [hpn]; exact hsi.np) (by rw [hcn]; exact hsi.nc) hnb
  have HP4 : Hid (∀ X, Below W1.heap.size W1 X → Calls Try.prog 8 #[.agg #[.int .i64 cap, .bool rs, .int .i64 la, .slice pa pn pc, .slice ca cn cc], .slice ao2 n2 c2] X fun e w' => ∃ r, e = .returned (.int .i64 r) ∧ PartsO pn (s.chs.map (fun c => c.l.length)) os2 r ∧ Below X.heap.size X w') := fun X hX => by
    have hch : ChsAt X ca (s.chs.map (fun c => c.l.length)) := by rw [hca]; exact (HS.out X (HBw.out X hX)).chs hsi.nv
    exact partsO_any _ X cap rs la pa pn pc ca cn cc _ ao2 n2 c2 os2 (by rw [List.length_map]; exact hcn) hn2 hch (HO2.out X (HBw.out X hX)) (by rw [hpn]; exact hsi.np) (by rw [hcn]; exact hsi.nc) hnb2
  have HE := hidC (And.intro hpn hcn)
  have HN := hidC (And.intro hn hn2)
  have HIn := hidC (And.intro hin (And.intro hsi hin2))
  have HMv := hidC hmv
  rw [hmv]
  clear hpn hcn hpa hca hpc hcc hla hs hops hops2 hmv hn hn2 hin hin2 hsi
  go_enter Try.func6, Try.ntmps6
  go_upto_region 1 with fail
  rw [← hW1, ← hKb]
  clear hW1 hKb
  obtain ⟨k0, k1, k2, k3, k4⟩ := HK.out W1 (Below.refl _ _)
  go_wp2_with fail
  clear k0 k1 k2 k3 k4
  refine (HP3.out W1 (Below.refl _ _)).mono ?_
  rintro e X2 ⟨r, rfl, hr, hb2⟩
  have HQ2 := hidC hb2
  have HPr := hidC hr
  clear hr hb2 HP3
  by_cases hr0 : r < 0
  · have hr1 : decide (r < 0) = true := decide_eq_true hr0
    have HX : Hid (BcPost w (.returned (.bool true)) X2) := ⟨rfl, HBw.out _ HQ2.out⟩
    go_wp2
    go_ret
    exact HX.out
  have hr1 : decide (r < 0) = false := decide_eq_false hr0
  have HPo := hidC (HPr.out (by omega))
  have HSo : Hid (SnOK s) := HIn.out.2.1.ok (os := os) (r := r) (by rw [← HE.out.1]; exact HPr.out) (by omega)
  clear HPr
  obtain ⟨k0, k1, k2, k3, k4⟩ := HK.out X2 HQ2.out
  go_wp2_with fail
  clear k0 k1 k2 k3 k4
  refine (HP4.out X2 HQ2.out).mono ?_
  rintro e X3 ⟨r2, rfl, hr, hb3⟩
  have HQ3 := hidC (HQ2.out.trans (hb3.mono HQ2.out.size))
  have HPr := hidC hr
  clear hr hb3 HP4 HQ2
  by_cases hr2 : r2 < 0
  · have hr3 : decide (r2 < 0) = true := decide_eq_true hr2
    have HX : Hid (BcPost w (.returned (.bool true)) X3) := ⟨rfl, HBw.out _ HQ3.out⟩
    go_wp2
    go_ret
    exact HX.out
  have hr3 : decide (r2 < 0) = false := decide_eq_false hr2
  have HPo2 := hidC (HPr.out (by omega))
  clear HPr
  go_wp2_with fail
  refine (works_any X3).mono ?_
  rintro e X4 ⟨rfl, hb4⟩
  have HQ4 := hidC (HQ3.out.trans (hb4.mono HQ3.out.size))
  clear hb4
  obtain ⟨k0, k1, k2, k3, k4⟩ := HK.out X4 HQ4.out
  have HMd : Hid (∀ X, Below W1.heap.size W1 X → Calls Try.prog 19 #[.agg #[.int .i64 cap, .bool rs, .int .i64 la, .slice pa pn pc, .slice ca cn cc]] X fun e w' => MadePost X cap rs s e w') := fun X hX => by
    have h1 := made_any w.heap.size X cap rs s (HS.out X (HBw.out _ hX)) (HBw.out _ hX).size HSo.out
    rw [HMv.out] at h1
    exact h1
  go_wp2_with fail
  clear k0 k1 k2 k3 k4
  refine (HMd.out X4 HQ4.out).mono ?_
  rintro e X5 ⟨P, bv, rv, rfl, hP, hPl, hb5, ⟨_, rfl, rfl⟩ | ⟨_, B, Mp, Mc, Mn, nw0, R, av, pvv, rfl, rfl, hba, hsb, _⟩⟩
  · have p0 : X5.cell? ⟨P, 0, none⟩ = some (.pointer none) := by simp [World.cell?, hP]
    have HX : Hid (BcPost w (.returned (.bool true)) X5) := by
      have h1 := HBw.out _ HQ4.out
      exact ⟨rfl, h1.trans (hb5.mono h1.size)⟩
    clear hP hPl hb5 HMd
    go_wp2
    go_ret
    exact HX.out
  have p0 : X5.cell? ⟨P, 0, none⟩ = some (ptr B) := by simp [World.cell?, hP]
  have HB5 : Hid (Below w.heap.size w X5) := by
    have h1 := HBw.out _ HQ4.out
    exact h1.trans (hb5.mono h1.size)
  have HSb : Hid (∀ k, SB B Mp Mc Mn k → w.heap.size ≤ k) := fun k hk => Nat.le_trans (HBw.out _ HQ4.out).size (hsb k hk)
  have HA5 : Hid (∃ (st : Bs) (nw : List K), BA X5 B Mp Mc Mn cap st.la st.fl st.pins st.all nw ∧ Below w.heap.size w X5) := ⟨⟨mdL rs s, mdL rs s, mdP rs s, mdA rs s⟩, nw0, hba, HB5.out⟩
  clear hP hPl hb5 hba hsb HMd HQ4 HQ3 HSo HB5
  go_wp2_with fail
  clear p0
  go_loopw [10] (fun y wr => ∃ i : Nat, i ≤ n ∧ y = .int .i64 (i : Int) ∧ Hid (∃ (st : Bs) (nw : List K), BA wr B Mp Mc Mn cap st.la st.fl st.pins st.all nw ∧ Below w.heap.size w wr)) (fun y _ => n - (intOf y).toNat)
  case atStart => exact ⟨0, Nat.zero_le _, rfl, HA5.out⟩
  case round =>
    clear HA5
    obtain ⟨i, hi, rfl, HI⟩ := hrel
    obtain ⟨st, nw, hA, hbw⟩ := HI.out
    clear HI
    by_cases hlt : i < n
    · have hil : i < os.length := by have := HN.out.1; omega
      have HPi := hidC (HPo.out.2.2.2.2 os[i] (List.getElem_mem hil))
      have HIo := hidC (HIn.out.1 _ (List.getElem_mem hil))
      have HOK : Hid (OcOK os[i]) := ⟨HPi.out.1, HPi.out.2, HIo.out.1, HIo.out.2.1⟩
      obtain ⟨b, off, hao, hoc⟩ := HO.out wr hbw i hil
      subst hao
      have HDo := hidC (do_any _ wr B Mp Mc Mn cap st nw hA os[i] HOK.out hoc.ws)
      obtain ⟨_, _, c0, c1, c2, c3, c4, _⟩ := hoc
      have HNx : Hid (∀ e w', DoPost wr B Mp Mc Mn cap os[i] st e w' → (∃ r, e = .returned (.bool r)) ∧ ∃ (s' : Bs) (nw : List K), BA w' B Mp Mc Mn cap s'.la s'.fl s'.pins s'.all nw ∧ Below w.heap.size w w') := fun e w' ⟨r, s', nw', h1, h2, h3, h4⟩ => ⟨⟨r, h1⟩, s', nw', h3, hbw.trans (h4.below hbw.size HSb.out)⟩
      generalize os[i] = o at *
      obtain ⟨kind, oa, occ, oL, m, k1, k2⟩ := o
      simp only at c0 c1 c2 c3 c4
      simp only [opv] at HDo
      generalize oL.length = ln at *
      clear hA hbw HOK HPi HIo
      go_wp2_with fail
      clear c0 c1 c2 c3 c4
      refine HDo.out.mono ?_
      intro e W2 hpost
      obtain ⟨⟨rr, rfl⟩, hz⟩ := HNx.out e W2 hpost
      have HZ := hidC hz
      clear hz hpost HDo HNx
      go_wp2
      exact ⟨⟨i + 1, by omega, by go_num, HZ.out⟩, by simp [intOf]; omega⟩
    · have HBr := hidC hbw
      have HCo := hidC (collect_any wr B Mp Mc Mn cap st.la st.fl st.pins st.all nw hA)
      clear hA hbw
      go_wp2_with fail
      refine HCo.out.mono ?_
      rintro e Y1 ⟨d, all', hd1, hd2, hcn, rfl, hba, hf1⟩
      have HY1 : Hid (Below w.heap.size w Y1) := HBr.out.trans (hf1.below HBr.out.size HSb.out)
      have HA1 := hidC hba
      have HCn := hidC (And.intro hd1 (And.intro hd2 hcn))
      have HCp := hidC (capacity_any Y1 B Mp Mc Mn cap st.la st.la st.pins all' nw hba)
      have HSh := hidC (shot_any Y1 B Mp Mc Mn cap st.la st.la st.pins all' nw hba d hd1 hd2)
      generalize (st.all.length : Int) - (all'.length : Int) = cx at *
      clear hd1 hd2 hcn hba hf1 HCo HBr
      go_wp2_with fail
      refine HCp.out.mono ?_
      rintro e Y ⟨rfl, hY⟩
      have hY' := hY.symm
      subst hY'
      clear hY HCp
      go_wp2_with fail
      refine HSh.out.mono ?_
      rintro e Y2 ⟨s2, rfl, htl, hsn, hb2⟩
      have hbk := back_can (HA1.out.kept hb2) HCn.out.2.2 HCn.out.1 HCn.out.2.1 htl
      have HRs := hidC (restore_any Y2.heap.size Y2 cap s2 hsn (Nat.le_refl _) hbk.ok)
      have HBk := hidC hbk
      have HTl := hidC htl
      have HA2 := hidC (HA1.out.kept hb2)
      have HY2 : Hid (Below w.heap.size w Y2) := HY1.out.trans (hb2.mono HY1.out.size)
      clear htl hsn hb2 hbk HSh HA1 HY1
      have hsv : snv s2 = .agg #[.int .i64 s2.la, .slice s2.pa s2.pins.length s2.pc, .slice s2.ca s2.chs.length s2.cc] := rfl
      rw [hsv] at HRs ⊢
      clear hsv
      generalize s2.pins.length = x1 at *
      generalize s2.chs.length = x2 at *
      go_wp2_with fail
      refine HRs.out.mono ?_
      rintro e Y3 (⟨hne, _⟩ | ⟨_, C, Np, Nc, Nn, nv, rfl, hbc, hsc, hb3⟩)
      · exact absurd HBk.out.zero hne
      have HAp : Hid (Ap2 w.heap.size B Mp Mc Mn C Np Nc Nn) := ⟨fun k h1 h2 => by have := HA2.out.lt h1; have := hsc k h2; omega, HSb.out, fun k hk => by have := hsc k hk; have := HY2.out.size; omega⟩
      have HEq : Hid (∃ st tt, Eqv st tt ∧ TwB w B Mp Mc Mn C Np Nc Nn cap st tt Y3) := by
        refine ⟨⟨st.la, st.la, st.pins, all'⟩, ⟨s2.la, s2.la, s2.pins, snV s2.chs⟩, ⟨HTl.out.la.symm, HTl.out.la.symm, fun n => (HBk.out.pn n).symm, fun k => (HBk.out.al k).symm⟩, ⟨⟨nw, HA2.out.kept hb3⟩, ⟨nv, hbc⟩, HY2.out.trans (hb3.mono HY2.out.size)⟩⟩
      have HAl : Hid (∀ a b W, Eqv a b → TwB w B Mp Mc Mn C Np Nc Nn cap a b W → Calls Try.prog 29 #[ptr B, ptr C] W fun e w' => e = .returned (.bool true) ∧ Below W.heap.size W w') := fun a b W he hW => by
        obtain ⟨nw, h1⟩ := hW.b1
        obtain ⟨nv, h2⟩ := hW.b2
        exact (alike_any W B Mp Mc Mn C Np Nc Nn cap a b nw nv h1 h2 he).mono (fun e w' h => h)
      have HA3 : Hid (Calls Try.prog 29 #[ptr B, ptr C] Y3 fun e w' => e = .returned (.bool true) ∧ Below Y3.heap.size Y3 w') := by
        obtain ⟨st, tt, h1, h2⟩ := HEq.out
        exact HAl.out _ _ _ h1 h2
      clear hbc hsc hb3 HRs HTl HBk HA2 HY2 HCn
      go_wp2_with fail
      refine (numB_any _ 0).mono ?_
      rintro e Y ⟨rfl, hY⟩
      have hY' := hY.symm
      subst hY'
      clear hY
      go_wp2_with fail
      refine HA3.out.mono ?_
      rintro e Y4 ⟨rfl, hb4⟩
      have HE4 : Hid (∃ st tt, Eqv st tt ∧ TwB w B Mp Mc Mn C Np Nc Nn cap st tt Y4) := by
        obtain ⟨st, tt, h1, h2⟩ := HEq.out
        exact ⟨st, tt, h1, h2.kept hb4⟩
      clear hb4 HA3 HEq
      go_wp2_with fail
      go_loopw [8, 13, 14, 15, 16, 17, 18] (fun _ y _ _ _ _ _ wr => ∃ i : Nat, i ≤ n2 ∧ y = .int .i64 (i : Int) ∧ Hid (∃ st tt, Eqv st tt ∧ TwB w B Mp Mc Mn C Np Nc Nn cap st tt wr)) (fun _ y _ _ _ _ _ _ => n2 - (intOf y).toNat)
      case atStart => exact ⟨0, Nat.zero_le _, rfl, HE4.out⟩
      case round =>
        clear HE4
        obtain ⟨i, hi, rfl, HI⟩ := hrel
        obtain ⟨st, tt, heqv, hT⟩ := HI.out
        clear HI
        by_cases hlt : i < n2
        · have hil : i < os2.length := by have := HN.out.2; omega
          obtain ⟨b, off, hao, hoc⟩ := HO2.out wr hT.bw i hil
          subst hao
          have HPi := hidC (HPo2.out.2.2.2.2 os2[i] (List.getElem_mem hil))
          have HIo := hidC (HIn.out.2.2 _ (List.getElem_mem hil))
          have HOK : Hid (OcOK os2[i]) := ⟨HPi.out.1, HPi.out.2, HIo.out.1, HIo.out.2.1⟩
          have HWs : Hid (∀ W, Below w.heap.size w W → RWs (fun k => w.heap.size ≤ k) W os2[i].a os2[i].L) := fun W hW => by
            obtain ⟨_, _, _, h⟩ := HO2.out W hW i hil
            exact h.ws
          obtain ⟨_, _, c0, c1, c2', c3, c4, _⟩ := hoc
          obtain ⟨nw0, hb0⟩ := hT.b1
          obtain ⟨nv0, hb0'⟩ := hT.b2
          have HEv := hidC (And.intro heqv (And.intro hb0.pnd hb0'.pnd))
          have HT := hidC hT
          generalize os2[i] = o at *
          obtain ⟨ln, hln⟩ : ∃ ln, ln = o.L.length := ⟨_, rfl⟩
          have HLn := hidC hln
          have HLt : Hid (∀ W, Below w.heap.size w W → Calls Try.prog 14 #[.slice o.a ln o.c] W fun e w' => ∃ a c', e = .returned (.slice a ln c') ∧ RWs (fun k => k < W.heap.size) w' a o.L ∧ Below W.heap.size W w') := fun W hW => lentW_any _ W o.a ln o.c o.L hln (HWs.out W hW) (by rw [hln]; exact HOK.out.len) HOK.out.each
          have HAd1 : Hid (∀ s t W W0 a c', o.kind = 0 → TwB w B Mp Mc Mn C Np Nc Nn cap s t W0 → TwB w B Mp Mc Mn C Np Nc Nn cap s t W → RWs (fun k => k < W0.heap.size) W a o.L → Calls Try.prog 13 #[ptr B, .slice a ln c'] W fun e w' => ∃ x E s', e = .returned (.tuple #[.int .i64 x, .int .i64 E]) ∧ AdmR cap o s s' x E ∧ TwB w B Mp Mc Mn C Np Nc Nn cap s' t w' ∧ Fr (SB B Mp Mc Mn) W w') := fun s t W W0 a c' hk h0 hW hR => by
            obtain ⟨nw, h1⟩ := hW.b1
            obtain ⟨nw', h1'⟩ := h0.b1
            refine (admR_any W B Mp Mc Mn cap s nw h1 o HOK.out hk a ln c' hln (hR.weak (fun k hk => h1'.lt hk))).mono ?_
            rintro e w' ⟨x, E, s', z1, z2, z3, z4⟩
            exact ⟨x, E, s', z1, z2, hW.fr1 HAp.out z3 z4, z4⟩
          have HAd2 : Hid (∀ s t W W0 a c', o.kind = 0 → TwB w B Mp Mc Mn C Np Nc Nn cap s t W0 → TwB w B Mp Mc Mn C Np Nc Nn cap s t W → RWs (fun k => k < W0.heap.size) W a o.L → Calls Try.prog 13 #[ptr C, .slice a ln c'] W fun e w' => ∃ x E t', e = .returned (.tuple #[.int .i64 x, .int .i64 E]) ∧ AdmR cap o t t' x E ∧ TwB w B Mp Mc Mn C Np Nc Nn cap s t' w' ∧ Fr (SB C Np Nc Nn) W w') := fun s t W W0 a c' hk h0 hW hR => by
            obtain ⟨nw, h1⟩ := hW.b2
            obtain ⟨nw', h1'⟩ := h0.b2
            refine (admR_any W C Np Nc Nn cap t nw h1 o HOK.out hk a ln c' hln (hR.weak (fun k hk => h1'.lt hk))).mono ?_
            rintro e w' ⟨x, E, t', z1, z2, z3, z4⟩
            exact ⟨x, E, t', z1, z2, hW.fr2 HAp.out z3 z4, z4⟩
          have HCo1 : Hid (∀ s t W, o.kind = 3 → TwB w B Mp Mc Mn C Np Nc Nn cap s t W → Calls Try.prog 15 #[ptr B] W fun e w' => ∃ x s', e = .returned (.int .i64 x) ∧ ColR cap o s s' x ∧ TwB w B Mp Mc Mn C Np Nc Nn cap s' t w' ∧ Fr (SB B Mp Mc Mn) W w') := fun s t W hk hW => by
            obtain ⟨nw, h1⟩ := hW.b1
            refine (colR_any W B Mp Mc Mn cap s nw h1 o hk).mono ?_
            rintro e w' ⟨x, s', z1, z2, z3, z4⟩
            exact ⟨x, s', z1, z2, hW.fr1 HAp.out z3 z4, z4⟩
          have HCo2 : Hid (∀ s t W, o.kind = 3 → TwB w B Mp Mc Mn C Np Nc Nn cap s t W → Calls Try.prog 15 #[ptr C] W fun e w' => ∃ x t', e = .returned (.int .i64 x) ∧ ColR cap o t t' x ∧ TwB w B Mp Mc Mn C Np Nc Nn cap s t' w' ∧ Fr (SB C Np Nc Nn) W w') := fun s t W hk hW => by
            obtain ⟨nw, h1⟩ := hW.b2
            refine (colR_any W C Np Nc Nn cap t nw h1 o hk).mono ?_
            rintro e w' ⟨x, t', z1, z2, z3, z4⟩
            exact ⟨x, t', z1, z2, hW.fr2 HAp.out z3 z4, z4⟩
          have HD1 : Hid (∀ s t W, TwB w B Mp Mc Mn C Np Nc Nn cap s t W → Calls Try.prog 16 #[ptr B, opv o] W fun e w' => ∃ r s', e = .returned (.bool r) ∧ DoR cap o s s' r ∧ TwB w B Mp Mc Mn C Np Nc Nn cap s' t w' ∧ Fr (SB B Mp Mc Mn) W w') := fun s t W hW => by
            obtain ⟨nw, hb⟩ := hW.b1
            refine (do_any _ W B Mp Mc Mn cap s nw hb o HOK.out (HWs.out W hW.bw)).mono ?_
            rintro e w' ⟨r, s', nw', z1, z2, z3, z4⟩
            exact ⟨r, s', z1, z2, hW.fr1 HAp.out ⟨nw', z3⟩ z4, z4⟩
          have HD2 : Hid (∀ s t W, TwB w B Mp Mc Mn C Np Nc Nn cap s t W → Calls Try.prog 16 #[ptr C, opv o] W fun e w' => ∃ r t', e = .returned (.bool r) ∧ DoR cap o t t' r ∧ TwB w B Mp Mc Mn C Np Nc Nn cap s t' w' ∧ Fr (SB C Np Nc Nn) W w') := fun s t W hW => by
            obtain ⟨nw, hb⟩ := hW.b2
            refine (do_any _ W C Np Nc Nn cap t nw hb o HOK.out (HWs.out W hW.bw)).mono ?_
            rintro e w' ⟨r, t', nw', z1, z2, z3, z4⟩
            exact ⟨r, t', z1, z2, hW.fr2 HAp.out ⟨nw', z3⟩ z4, z4⟩
          have HDe : Hid (∀ s' t' r r2, DoR cap o st s' r → DoR cap o tt t' r2 → r2 = r ∧ Eqv s' t') := fun s' t' r r2 h1 h2 => by
            have h3 := HEv.out.1.call HEv.out.2.1 HEv.out.2.2 h1 h2
            exact ⟨h3.1.symm, h3.2⟩
          have HAe : Hid (∀ s' t' x E y F, AdmR cap o st s' x E → AdmR cap o tt t' y F → y = x ∧ F = E ∧ Eqv s' t') := fun s' t' x E y F h1 h2 => h1.same h2 HEv.out.1 HEv.out.2.1 HEv.out.2.2
          have HCe : Hid (∀ s' t' x y, ColR cap o st s' x → ColR cap o tt t' y → y = x ∧ Eqv s' t') := fun s' t' x y h1 h2 => h1.same h2 HEv.out.1 HEv.out.2.1 HEv.out.2.2
          obtain ⟨kind, oa, occ, oL, m, k1, k2⟩ := o
          simp only at c0 c1 c2' c3 c4 hln HLt HAd1 HAd2 HCo1 HCo2
          simp only [opv] at HD1 HD2
          rw [← hln] at c1 HD1 HD2
          obtain ⟨U, hU⟩ : ∃ U, U = wr.alloc (.cells #[.int .i64 kind, .slice oa ln occ, .int .i64 m, .int .i64 k1, .int .i64 k2] 40) := ⟨_, rfl⟩
          obtain ⟨g, hg⟩ : ∃ g, g = wr.heap.size := ⟨_, rfl⟩
          obtain ⟨BX, hBX⟩ : ∃ BX : World → Prop, BX = fun W => W.heap[g]? = some (.cells #[.int .i64 kind, .slice oa ln occ, .int .i64 m, .int .i64 k1, .int .i64 k2] 40 (0, 0)) := ⟨_, rfl⟩
          have HU : Hid (TwB w B Mp Mc Mn C Np Nc Nn cap st tt U ∧ BX U) := by
            have hbU : Below wr.heap.size wr U := by rw [hU]; exact (Below.refl _ _).alloc (Nat.le_refl _) _
            refine ⟨HT.out.kept hbU, ?_⟩
            rw [hBX, hU, hg]
            exact heap_alloc_new _ _ rfl
          have HBk : Hid (∀ W W', BX W → Below W.heap.size W W' → BX W') := fun W W' h hb => by
            rw [hBX] at h ⊢
            exact (hb.block g (blk_lt h)).trans h
          have HKp : Hid (∀ W, BX W → W.cell? ⟨g, 0, none⟩ = some (.int .i64 kind) ∧ W.cell? ⟨g, 1, none⟩ = some (.slice oa ln occ) ∧ W.cell? ⟨g, 2, none⟩ = some (.int .i64 m) ∧ W.cell? ⟨g, 3, none⟩ = some (.int .i64 k1) ∧ W.cell? ⟨g, 4, none⟩ = some (.int .i64 k2)) := fun W hX => by
            rw [hBX] at hX
            refine ⟨?_, ?_, ?_, ?_, ?_⟩ <;> simp [World.cell?, show W.heap[g]? = _ from hX]
          have HBf : Hid (∀ a b W W', TwB w B Mp Mc Mn C Np Nc Nn cap a b W → BX W → (Fr (SB B Mp Mc Mn) W W' ∨ Fr (SB C Np Nc Nn) W W') → BX W') := fun a b W W' hW hX hf => by
            rw [hBX] at hX ⊢
            obtain ⟨nw, h1⟩ := hW.b1
            obtain ⟨nv, h2⟩ := hW.b2
            rcases hf with hf | hf
            · exact (hf.block g (blk_lt hX) (h1.notC hX (by decide))).trans hX
            · exact (hf.block g (blk_lt hX) (h2.notC hX (by decide))).trans hX
          clear hT heqv hb0 hb0' hBX HPi HIo HOK HWs HT HEv hln HLn
          by_cases h0 : kind = 0
          · subst h0
            go_upto_region 23 with fail
            rw [← hU, ← hg]
            clear hU hg c0 c1 c2' c3 c4 HD1 HD2 HCo1 HCo2 HDe HCe
            obtain ⟨g0, g1, g2, g3, g4⟩ := HKp.out _ HU.out.2
            go_wp2_with fail
            clear g0 g1 g2 g3 g4
            refine (HLt.out U HU.out.1.bw).mono ?_
            rintro e U2 ⟨a1, d1, rfl, hr1', hb1⟩
            have HT2 := hidC (HU.out.1.kept hb1)
            have HX2 := hidC (HBk.out _ _ HU.out.2 hb1)
            have HA1 := hidC (HAd1.out _ _ U2 U a1 d1 (by trivial) HU.out.1 HT2.out hr1')
            clear hr1' hb1
            go_wp2_with fail
            refine HA1.out.mono ?_
            rintro e U3 ⟨x1, E1, s3, rfl, hR1, hT3, hf3⟩
            have HX3 := hidC (HBf.out _ _ _ _ HT2.out HX2.out (.inl hf3))
            have HT3 := hidC hT3
            have HR1 := hidC hR1
            obtain ⟨g0, g1, g2, g3, g4⟩ := HKp.out _ HX3.out
            clear hR1 hT3 hf3 HA1 HT2 HX2
            go_wp2_with fail
            clear g0 g1 g2 g3 g4
            refine (HLt.out U3 HT3.out.bw).mono ?_
            rintro e U4 ⟨a2, d2, rfl, hr2', hb2⟩
            have HT4 := hidC (HT3.out.kept hb2)
            have HA2 := hidC (HAd2.out _ _ U4 U3 a2 d2 (by trivial) HT3.out HT4.out hr2')
            clear hr2' hb2
            go_wp2_with fail
            refine HA2.out.mono ?_
            rintro e U5 ⟨x2, E2, t5, rfl, hR2, hT5, _⟩
            obtain ⟨hx, hE, he5⟩ := HAe.out _ _ _ _ _ _ HR1.out hR2
            subst hx hE
            have HT5 := hidC hT5
            have HE5 := hidC he5
            have HAq := hidC (HAl.out _ _ _ he5 hT5)
            have hxx : (x2 == x2) = true := by simp
            have hee : (E2 == E2) = true := by simp
            clear hR2 hT5 he5 HA2 HT4 HT3 HR1 HX3 HLt HAd1 HAd2
            go_wp2_with fail
            refine (numB_any U5 E2).mono ?_
            rintro e Y ⟨rfl, hY⟩
            have hY' := hY.symm
            subst hY'
            clear hY
            go_wp2_with fail
            refine (numB_any U5 E2).mono ?_
            rintro e Y ⟨rfl, hY⟩
            have hY' := hY.symm
            subst hY'
            clear hY
            go_wp2_with fail
            refine HAq.out.mono ?_
            rintro e U6 ⟨rfl, hb6⟩
            have HZ : Hid (∃ st tt, Eqv st tt ∧ TwB w B Mp Mc Mn C Np Nc Nn cap st tt U6) := ⟨_, _, HE5.out, HT5.out.kept hb6⟩
            clear hb6 HAq
            go_wp2
            exact ⟨⟨i + 1, by omega, by go_num, HZ.out⟩, by simp [intOf]; omega⟩
          by_cases h3 : kind = 3
          · subst h3
            go_upto_region 23 with fail
            rw [← hU, ← hg]
            clear hU hg c0 c1 c2' c3 c4 HD1 HD2 HAd1 HAd2 HLt HDe HAe
            obtain ⟨g0, g1, g2, g3, g4⟩ := HKp.out _ HU.out.2
            go_wp2_with fail
            clear g0 g1 g2 g3 g4
            refine (HCo1.out _ _ U (by trivial) HU.out.1).mono ?_
            rintro e U2 ⟨x1, s2, rfl, hR1, hT2, _⟩
            have HT2 := hidC hT2
            have HR1 := hidC hR1
            clear hR1 hT2
            go_wp2_with fail
            refine (HCo2.out _ _ U2 (by trivial) HT2.out).mono ?_
            rintro e U5 ⟨x2, t5, rfl, hR2, hT5, _⟩
            obtain ⟨hx, he5⟩ := HCe.out _ _ _ _ HR1.out hR2
            subst hx
            have HT5 := hidC hT5
            have HE5 := hidC he5
            have HAq := hidC (HAl.out _ _ _ he5 hT5)
            have hxx : (x2 == x2) = true := by simp
            clear hR2 hT5 he5 HR1 HT2
            go_wp2_with fail
            refine HAq.out.mono ?_
            rintro e U6 ⟨rfl, hb6⟩
            have HZ : Hid (∃ st tt, Eqv st tt ∧ TwB w B Mp Mc Mn C Np Nc Nn cap st tt U6) := ⟨_, _, HE5.out, HT5.out.kept hb6⟩
            clear hb6 HAq
            go_wp2
            exact ⟨⟨i + 1, by omega, by go_num, HZ.out⟩, by simp [intOf]; omega⟩
          have hk0 : (kind == 0) = false := by simpa using h0
          have hk3 : (kind == 3) = false := by simpa using h3
          go_upto_region 23 with fail
          rw [← hU, ← hg]
          clear hU hg c0 c1 c2' c3 c4 HCo1 HCo2 HAd1 HAd2 HLt HAe HCe
          obtain ⟨g0, g1, g2, g3, g4⟩ := HKp.out _ HU.out.2
          have HDr : Hid (Below U.heap.size U U.drew) := drew_below U 1
          have HTd := hidC (HU.out.1.kept HDr.out)
          have HXd := hidC (HBk.out _ _ HU.out.2 HDr.out)
          go_upto_region 24 with fail
          go_region_held3 (fun w' => w'.cell? ⟨g, 0, none⟩ = some (.int .i64 kind) ∧ w'.cell? ⟨g, 1, none⟩ = some (.slice oa ln occ) ∧ w'.cell? ⟨g, 2, none⟩ = some (.int .i64 m) ∧ w'.cell? ⟨g, 3, none⟩ = some (.int .i64 k1) ∧ w'.cell? ⟨g, 4, none⟩ = some (.int .i64 k2)) (first | with_reducible exact HKp.out _ HX4.out | with_reducible exact HKp.out _ HX3.out | go_keep) (first
            | (go_at_call 16; with_reducible refine (HD1.out _ _ U.drew HTd.out).mono ?_; rintro e U3 ⟨r1, s3, rfl, hdo, ht3, hf3⟩; have HT3 := hidC ht3; have HX3 := hidC (HBf.out _ _ _ _ HTd.out HXd.out (.inl hf3)); have HDo := hidC hdo; clear hdo ht3 hf3)
            | (go_at_call 16; with_reducible refine (HD2.out _ _ U3 HT3.out).mono ?_; rintro e U4 ⟨r2, t4, rfl, hdo, ht4, hf4⟩; have HT4 := hidC ht4; have HX4 := hidC (HBf.out _ _ _ _ HT3.out HX3.out (.inr hf4)); have HDp := hidC hdo; clear hdo ht4 hf4))
          all_goals (
            obtain ⟨hrr, he5⟩ := HDe.out _ _ _ _ HDo.out HDp.out
            subst hrr
            have HE5 := hidC he5
            have HAq := hidC (HAl.out _ _ _ he5 HT4.out)
            have hxx : (r2 == r2) = true := by simp
            clear he5 g0 g1 g2 g3 g4
            go_wp2_with fail
            refine HAq.out.mono ?_
            rintro e U6 ⟨rfl, hb6⟩
            have HZ : Hid (∃ st tt, Eqv st tt ∧ TwB w B Mp Mc Mn C Np Nc Nn cap st tt U6) := ⟨_, _, HE5.out, HT4.out.kept hb6⟩
            clear hb6 HAq
            go_wp2
            exact ⟨⟨i + 1, by omega, by go_num, HZ.out⟩, by simp [intOf]; omega⟩)
        · have HX : Hid (BcPost w (.returned (.bool true)) wr) := ⟨rfl, hT.bw⟩
          clear hT heqv
          go_wp2
          go_ret
          exact HX.out
end Go.Proofs.Ytibdogniiglcjab
/-
  FROM THE READING OF A []api.Key ARGUMENT (OR FIELD) TO ITS KEYS.
-/
namespace Go.Proofs.Ytibdogniiglcjab
open Go.ChangeShapes Go.WideShapes Go.ChangeAt Go.RowKit

theorem cellsKey : Try.prog.cellsOf 38 = 2 := by kernel_rfl
theorem cellsInt' : Try.prog.cellsOf 3 = 1 := by kernel_rfl
theorem cellsInt64' : Try.prog.cellsOf 2 = 1 := by kernel_rfl
theorem bytesKey : Try.prog.bytesOf 38 = 16 := by kernel_rfl
set_option maxRecDepth 100000 in
/-- one element -/
theorem key_of_trod {H : Type} {enc : TypeId × Value → H} {W : World} {fuel : Nat} {a : Addr} {i : Nat} {cs : List Value} {y : DataW H × List MemPlace} (hc : W.cells? 0 (a.add (i * 2)) 2 = some cs)
    (hf : DataW.trod enc Try.prog W 0 (fun _ => true) true fuel 38 cs = some y) :
    ∃ (b off : Nat) (k : K), a.add (i * 2) = ⟨b, off, none⟩ ∧ W.cell? ⟨b, off, none⟩ = some (.int .i64 k.1) ∧ W.cell? ⟨b, off + 1, none⟩ = some (.int .i64 k.2) ∧ In64 k.1 ∧ In64 k.2 := by
  obtain ⟨_, hlen, hcell⟩ := World.cells?_some hc
  obtain ⟨xs, k, hk, hxy, _, hxl, hf⟩ := DataW.trod_struct Try.underlying38 hf
  match xs, hxl, cs, hlen with
  | [y0, y1], _, [v0, v1], _ =>
    have g0 := hf 0 _ rfl
    have g1 := hf 1 _ rfl
    simp [cellsInt', cellsInt64'] at g0 g1
    have e0 := hcell 0 (by omega)
    have e1 := hcell 1 (by omega)
    generalize a.add (i * 2) = ad at *
    obtain ⟨b, off, spot⟩ := ad
    have hspot : spot = none := by
      have h1 : (⟨b, off, spot⟩ : Addr).add 0 = ⟨b, off, spot⟩ := by simp [Addr.add]
      rw [h1] at e0
      exact World.cell?_spot e0
    subst hspot
    rw [Go.WideShapes.add_plain] at e0 e1
    obtain ⟨x0, h0, _, wx0⟩ := DataW.trod_int Try.underlying3 g0
    obtain ⟨x1, h1, _, wx1⟩ := DataW.trod_int Try.underlying2 g1
    simp only [List.cons.injEq, and_true] at h0 h1
    subst h0 h1
    exact ⟨b, off, (x0, x1), rfl, by simpa using e0, by simpa using e1, bounds_i64 wx0, bounds_i64 wx1⟩
theorem cks_of {w : World} {b off : Nat} : ∀ (L : List K) (d : Nat), (∀ i, i < L.length → w.cell? ⟨b, off + (d + i) * 2, none⟩ = some (.int .i64 (kd L i).1) ∧ w.cell? ⟨b, off + (d + i) * 2 + 1, none⟩ = some (.int .i64 (kd L i).2)) →
    ∀ j u, (cks L)[j]? = some u → w.cell? ⟨b, off + d * 2 + j, none⟩ = some u
  | [], _, _, j, u, hu => by simp [cks] at hu
  | k :: L, d, h, 0, u, hu => by
    have := (h 0 (by simp)).1
    simp [cks] at hu
    simpa [kd, hu] using this
  | k :: L, d, h, 1, u, hu => by
    have := (h 0 (by simp)).2
    simp [cks] at hu
    simpa [kd, hu] using this
  | k :: L, d, h, j + 2, u, hu => by
    have ih := cks_of (w := w) (b := b) (off := off) L (d + 1) (fun i hi => by
      have := h (i + 1) (by simp; omega)
      rw [kd_cons_succ, show d + (i + 1) = d + 1 + i by omega] at this
      exact this) j u (by simpa [cks] using hu)
    rw [show off + (d + 1) * 2 + j = off + d * 2 + (j + 2) by omega] at ih
    exact ih
set_option maxRecDepth 100000 in
/-- what the reading of a slice of keys gives -/
theorem keys_of_trod {H : Type} {enc : TypeId × Value → H} {W : World} {fuel : Nat} {cs : List Value} {y : DataW H × List MemPlace}
    (hf : DataW.trod enc Try.prog W 0 (fun _ => true) true fuel 60 cs = some y) :
    ∃ (a : Option Addr) (len cap : Nat) (ks : List K), cs = [.slice a len cap] ∧ (len = ks.length ∧ KeysAt W a ks ∧ (a = none → cap = 0) ∧ len ≤ cap ∧ cap ≤ maxLen ∧ ∀ k ∈ ks, In64 k.1 ∧ In64 k.2) ∧
      (len = 0 ∨ ∃ elems spare, y.1 = .slice elems spare ∧ len ≤ elems.length + spare.length) := by
  rcases Deep.open_slice Try.underlying60 hf with ⟨rfl, rfl⟩ | ⟨a, len, cap, m, n, D, Pl, rfl, hb, hl, hm, hmm, rfl, hx⟩
  · exact ⟨none, 0, 0, [], rfl, ⟨rfl, .inl rfl, fun _ => rfl, Nat.le_refl _, Nat.zero_le _, by simp⟩, .inl rfl⟩
  · have hle : len ≤ m := by rw [hmm]; simpa using hl
    rw [cellsKey] at hx
    obtain ⟨Z, hZ⟩ := Deep.choose_lt (α := K) (n := len) (p := fun i k => ∃ b off, a.add (i * 2) = ⟨b, off, none⟩ ∧ W.cell? ⟨b, off, none⟩ = some (.int .i64 k.1) ∧ W.cell? ⟨b, off + 1, none⟩ = some (.int .i64 k.2) ∧ In64 k.1 ∧ In64 k.2) (fun i hi => by
      obtain ⟨cs', h1, h2⟩ := hx i (by omega)
      obtain ⟨b, off, k, h3⟩ := key_of_trod h1 h2
      exact ⟨k, b, off, h3⟩)
    refine ⟨some a, len, cap, (List.range len).map Z, rfl, ⟨by simp, ?_, by simp, by simpa using hl, hm, ?_⟩, .inr ⟨_, _, rfl, ?_⟩⟩
    · by_cases h0 : len = 0
      · left; subst h0; rfl
      · right
        obtain ⟨b, off, h1, _⟩ := hZ 0 (by omega)
        have h1' : a = ⟨b, off, none⟩ := by simpa [Addr.add] using h1
        subst h1'
        refine ⟨b, off, rfl, fun j u hu => ?_⟩
        have := cks_of (w := W) (b := b) (off := off) ((List.range len).map Z) 0 (fun i hi => by
          have hi' : i < len := by simpa using hi
          obtain ⟨b', off', h2, h3, h4, _⟩ := hZ i hi'
          rw [Go.WideShapes.add_plain] at h2
          simp only [Addr.mk.injEq, and_true] at h2
          obtain ⟨rfl, rfl⟩ := h2
          have e : kd ((List.range len).map Z) i = Z i := by simp [kd, List.getD_eq_getElem?_getD, hi']
          rw [e, Nat.zero_add]
          exact ⟨h3, h4⟩) j u hu
        simpa using this
    · intro k hk
      obtain ⟨i, hi, rfl⟩ := List.mem_map.1 hk
      obtain ⟨_, _, _, _, _, h5⟩ := hZ i (by simpa using hi)
      exact h5
    · simp
theorem keys_of_sized {H : Type} {ts : List TypeId} {ds : List (DataW H)} {j len : Nat} {d : DataW H} (h : (DataW.weightsEach Try.prog ts ds).all (· ≤ reachBytes) = true) (ht : ts[j]? = some 60) (hd : ds[j]? = some d)
    (hx : len = 0 ∨ ∃ elems spare, d = .slice elems spare ∧ len ≤ elems.length + spare.length) : len * 16 ≤ 140737488351232 := by
  rcases hx with h0 | ⟨elems, spare, rfl, hl⟩
  · omega
  · have h1 := sized_slice h ht hd Try.underlying60
    rw [bytesKey] at h1
    simp only [reachBytes] at h1
    omega

end Go.Proofs.Ytibdogniiglcjab
/-
  FROM THE READING OF A []preludelaw10.Op ARGUMENT TO ITS CALLS.
-/
namespace Go.Proofs.Ytibdogniiglcjab
open Go.ChangeShapes Go.WideShapes Go.ChangeAt Go.RowKit

theorem cellsSKb : Try.prog.cellsOf 60 = 1 := by kernel_rfl
theorem cellsSSKb : Try.prog.cellsOf 36 = 1 := by kernel_rfl
theorem bytesSKb : Try.prog.bytesOf 60 = 24 := by kernel_rfl
theorem cellsOpb : Try.prog.cellsOf 40 = 5 := by kernel_rfl
theorem bytesOpb : Try.prog.bytesOf 40 = 56 := by kernel_rfl
theorem cell_ltb {W : World} {b o : Nat} {v : Value} (h : W.cell? ⟨b, o, none⟩ = some v) : b < W.heap.size := by
  by_cases hb : b < W.heap.size
  · exact hb
  · have : W.heap[b]? = none := by simp; omega
    simp [World.cell?, this] at h
theorem wAll_mem {H : Type} {P : Program} {e : TypeId} : ∀ {ds : List (DataW H)} {d : DataW H}, d ∈ ds → ∀ z ∈ d.weights P e, z ∈ DataW.weightsAll P e ds
  | d0 :: ds, d, hd, z, hz => by
    simp only [DataW.weightsAll, List.mem_append]
    rcases List.mem_cons.1 hd with rfl | h
    · exact .inl hz
    · exact .inr (wAll_mem h z hz)
set_option maxRecDepth 100000 in
theorem lists_of_trod {H : Type} {enc : TypeId × Value → H} {W : World} {fuel : Nat} {cs : List Value} {y : DataW H × List MemPlace}
    (hf : DataW.trod enc Try.prog W 0 (fun _ => true) true fuel 36 cs = some y) :
    ∃ (a : Option Addr) (len cap : Nat) (L : List (List K)), cs = [.slice a len cap] ∧ len = L.length ∧ (∀ s ∈ L, ∀ k ∈ s, KIn k) ∧ RWs (fun k => W.heap.size ≤ k) W a L ∧
      ((∀ z ∈ y.1.weights Try.prog 36, z ≤ reachBytes) → len * 24 ≤ reachBytes ∧ ∀ s ∈ L, s.length * 16 ≤ reachBytes) := by
  rcases Deep.open_slice Try.underlying36 hf with ⟨rfl, rfl⟩ | ⟨a, len, cap, m, n, D, Pl, rfl, hb, hl, hm, hmm, rfl, hx⟩
  · exact ⟨none, 0, 0, [], rfl, rfl, by simp, fun i hi => by simp at hi, fun _ => ⟨by simp, by simp⟩⟩
  · have hle : len ≤ m := by rw [hmm]; simpa using hl
    rw [cellsSKb] at hx
    obtain ⟨Z, hZ⟩ := Deep.choose_lt (α := List K × Option Addr × Nat) (n := len) (p := fun i x => ∃ b off, a.add (i * 1) = ⟨b, off, none⟩ ∧ W.cell? ⟨b, off, none⟩ = some (.slice x.2.1 x.1.length x.2.2) ∧ KeysAt W x.2.1 x.1 ∧ (∀ k ∈ x.1, KIn k) ∧ ((∀ z ∈ (D i).weights Try.prog 60, z ≤ reachBytes) → x.1.length * 16 ≤ reachBytes)) (fun i hi => by
      obtain ⟨cs', h1, h2⟩ := hx i (by omega)
      obtain ⟨_, hlen, hcell⟩ := World.cells?_some h1
      obtain ⟨sa, sn, sc, ks, rfl, ⟨rfl, hat, _, _, _, hin⟩, hz⟩ := keys_of_trod h2
      have e0 := hcell 0 (by simp)
      generalize a.add (i * 1) = ad at *
      obtain ⟨b, off, spot⟩ := ad
      have hspot : spot = none := by
        have h1 : (⟨b, off, spot⟩ : Addr).add 0 = ⟨b, off, spot⟩ := by simp [Addr.add]
        rw [h1] at e0
        exact World.cell?_spot e0
      subst hspot
      rw [Go.WideShapes.add_plain] at e0
      refine ⟨(ks, sa, sc), b, off, rfl, by simpa using e0, hat, fun k hk => hin k hk, fun hw => ?_⟩
      rcases hz with h0 | ⟨elems, spare, e, hle⟩
      · show ks.length * 16 ≤ _
        rw [h0]
        simp
      · have z2 := hw ((elems.length + spare.length) * 16) (by
          have e' : D i = .slice elems spare := e
          rw [e']
          simp [DataW.weights, Try.underlying60, bytesKey])
        show ks.length * 16 ≤ _
        omega)
    have hget : ∀ i (hi : i < ((List.range len).map fun i => (Z i).1).length), i < len ∧ ((List.range len).map fun i => (Z i).1)[i] = (Z i).1 := fun i hi => ⟨by simpa using hi, by simp⟩
    refine ⟨some a, len, cap, (List.range len).map (fun i => (Z i).1), rfl, by simp, fun s hs => ?_, fun i hi => ?_, fun hz => ⟨?_, fun s hs => ?_⟩⟩
    · obtain ⟨i, hi, rfl⟩ := List.mem_map.1 hs
      obtain ⟨_, _, _, _, _, h5, _⟩ := hZ i (by simpa using hi)
      exact h5
    · obtain ⟨hi', e⟩ := hget i hi
      rw [e]
      obtain ⟨b, off, h1, _⟩ := hZ 0 (by omega)
      have h1' : a = ⟨b, off, none⟩ := by simpa [Addr.add] using h1
      subst h1'
      obtain ⟨b', off', h2, h3, h4, _⟩ := hZ i hi'
      rw [Go.WideShapes.add_plain, Nat.mul_one] at h2
      simp only [Addr.mk.injEq, and_true] at h2
      obtain ⟨rfl, rfl⟩ := h2
      have hlt := cell_ltb h3
      refine ⟨b, off, (Z i).2.1, (Z i).2.2, rfl, by omega, hlt, h3, h4, fun ad hne hsa => ?_⟩
      rcases h4 with h0 | ⟨kb, ko, e2, hc⟩
      · exact absurd h0 hne
      · rw [hsa] at e2
        cases e2
        obtain ⟨k, l, hkl⟩ : ∃ k l, (Z i).1 = k :: l := by
          cases hz : (Z i).1 with
          | nil => exact absurd hz hne
          | cons k l => exact ⟨k, l, rfl⟩
        have := hc 0 (.int .i64 k.1) (by rw [hkl]; simp [cks])
        have := cell_ltb this
        exact ⟨by show ¬ W.heap.size ≤ kb; omega, this⟩
    · simp only [DataW.weights, Try.underlying36, bytesSKb, List.mem_cons, List.mem_append] at hz
      have := hz _ (.inl rfl)
      simp at this
      omega
    · obtain ⟨i, hi, rfl⟩ := List.mem_map.1 hs
      have hi' : i < len := by simpa using hi
      obtain ⟨_, _, _, _, _, _, h6⟩ := hZ i hi'
      simp only [DataW.weights, Try.underlying36, bytesSKb, List.mem_cons, List.mem_append] at hz
      exact h6 (fun z hzz => hz z (.inr (.inl (wAll_mem (ds := (List.range len).map D) (List.mem_map.2 ⟨i, by simpa using hi', rfl⟩) z hzz))))
def SizedO {H : Type} (d : DataW H) : Prop := ∀ z ∈ d.weights Try.prog 40, z ≤ reachBytes
def OcB (o : Oc) : Prop := o.L.length * 24 ≤ reachBytes ∧ ∀ s ∈ o.L, s.length * 16 ≤ reachBytes
def OcI (o : Oc) : Prop := (∀ s ∈ o.L, ∀ k ∈ s, KIn k) ∧ In64 o.m ∧ In64 o.kind ∧ KIn o.k
set_option maxRecDepth 100000 in
theorem op_of_trod {H : Type} {enc : TypeId × Value → H} {W : World} {fuel : Nat} {a : Addr} {i : Nat} {cs : List Value} {y : DataW H × List MemPlace} (hc : W.cells? 0 (a.add (i * 5)) 5 = some cs)
    (hf : DataW.trod enc Try.prog W 0 (fun _ => true) true fuel 40 cs = some y) :
    ∃ (b off : Nat) (o : Oc), a.add (i * 5) = ⟨b, off, none⟩ ∧ (W.cell? ⟨b, off, none⟩ = some (.int .i64 o.kind) ∧ W.cell? ⟨b, off + 1, none⟩ = some (.slice o.a o.L.length o.c) ∧ W.cell? ⟨b, off + 2, none⟩ = some (.int .i64 o.m) ∧ W.cell? ⟨b, off + 3, none⟩ = some (.int .i64 o.k.1) ∧ W.cell? ⟨b, off + 4, none⟩ = some (.int .i64 o.k.2)) ∧
      RWs (fun k => W.heap.size ≤ k) W o.a o.L ∧ OcI o ∧ (SizedO y.1 → OcB o) := by
  obtain ⟨_, hlen, hcell⟩ := World.cells?_some hc
  obtain ⟨xs, k, hk, rfl, _, hxl, hf⟩ := DataW.trod_struct Try.underlying40 hf
  match xs, hxl, cs, hlen with
  | [y0, y1, y2, y3], _, [v0, v1, v2, v3, v4], _ =>
    have g0 := hf 0 _ rfl
    have g1 := hf 1 _ rfl
    have g2 := hf 2 _ rfl
    have g3 := hf 3 _ rfl
    simp [cellsInt', cellsSSKb, cellsKey] at g0 g1 g2 g3
    generalize a.add (i * 5) = ad at *
    obtain ⟨b, off, spot⟩ := ad
    have hspot : spot = none := by
      have e0 := hcell 0 (by omega)
      have h1 : (⟨b, off, spot⟩ : Addr).add 0 = ⟨b, off, spot⟩ := by simp [Addr.add]
      rw [h1] at e0
      exact World.cell?_spot e0
    subst hspot
    obtain ⟨x0, h0, _, wx0⟩ := DataW.trod_int Try.underlying3 g0
    obtain ⟨wa, wn, wc, L, hW, hl, hin, hrw, hz⟩ := lists_of_trod g1
    obtain ⟨x2, h2, _, wx2⟩ := DataW.trod_int Try.underlying3 g2
    obtain ⟨zs, k', hk', _, _, hzl, hf3⟩ := DataW.trod_struct Try.underlying38 g3
    match zs, hzl with
    | [z0, z1], _ =>
      have f0 := hf3 0 _ rfl
      have f1 := hf3 1 _ rfl
      simp [cellsInt', cellsInt64'] at f0 f1
      obtain ⟨x3, h3, _, wx3⟩ := DataW.trod_int Try.underlying3 f0
      obtain ⟨x4, h4, _, wx4⟩ := DataW.trod_int Try.underlying2 f1
      simp only [List.cons.injEq, and_true] at h0 hW h2 h3 h4
      subst h0 hW h2 h3 h4 hl
      have e : ∀ j u, ([.int .i64 x0, .slice wa L.length wc, .int .i64 x2, .int .i64 x3, .int .i64 x4] : List Value)[j]? = some u → W.cell? ⟨b, off + j, none⟩ = some u := fun j u hu => by
        have hj : j < 5 := (List.getElem?_eq_some_iff.1 hu).1
        have := hcell j hj
        rw [Go.WideShapes.add_plain] at this
        rw [this]
        exact hu
      refine ⟨b, off, ⟨x0, wa, wc, L, x2, (x3, x4)⟩, rfl, ⟨e 0 _ rfl, e 1 _ rfl, e 2 _ rfl, e 3 _ rfl, e 4 _ rfl⟩, hrw, ⟨hin, bounds_i64 wx2, bounds_i64 wx0, bounds_i64 wx3, bounds_i64 wx4⟩, fun hs => ?_⟩
      refine hz (fun z hzz => hs z ?_)
      simp only [DataW.weights, Try.underlying40]
      exact DataW.weights_mem_each (j := 1) (t := 36) (d := y1.1) rfl rfl _ hzz
set_option maxRecDepth 100000 in
/-- what the reading of a script gives -/
theorem ops_of_trod {H : Type} {enc : TypeId × Value → H} {W : World} {fuel : Nat} {cs : List Value} {y : DataW H × List MemPlace}
    (hf : DataW.trod enc Try.prog W 0 (fun _ => true) true fuel 22 cs = some y) :
    ∃ (a : Option Addr) (len cap : Nat) (os : List Oc), cs = [.slice a len cap] ∧ len = os.length ∧ (∀ o ∈ os, OcI o) ∧
      ((∀ z ∈ y.1.weights Try.prog 22, z ≤ reachBytes) → OpsAt (fun k => W.heap.size ≤ k) W a os ∧ len * 56 ≤ reachBytes) := by
  rcases Deep.open_slice Try.underlying22 hf with ⟨rfl, rfl⟩ | ⟨a, len, cap, m, n, D, Pl, rfl, hb, hl, hm, hmm, rfl, hx⟩
  · exact ⟨none, 0, 0, [], rfl, rfl, by simp, fun _ => ⟨fun i hi => by simp at hi, by simp⟩⟩
  · have hle : len ≤ m := by rw [hmm]; simpa using hl
    have hI : Inhabited Oc := ⟨⟨0, none, 0, [], 0, (0, 0)⟩⟩
    rw [cellsOpb] at hx
    obtain ⟨Z, hZ⟩ := Deep.choose_lt (α := Oc) (n := len) (p := fun i o => ∃ b off, a.add (i * 5) = ⟨b, off, none⟩ ∧ (W.cell? ⟨b, off, none⟩ = some (.int .i64 o.kind) ∧ W.cell? ⟨b, off + 1, none⟩ = some (.slice o.a o.L.length o.c) ∧ W.cell? ⟨b, off + 2, none⟩ = some (.int .i64 o.m) ∧ W.cell? ⟨b, off + 3, none⟩ = some (.int .i64 o.k.1) ∧ W.cell? ⟨b, off + 4, none⟩ = some (.int .i64 o.k.2)) ∧ RWs (fun k => W.heap.size ≤ k) W o.a o.L ∧ OcI o ∧ (SizedO (D i) → OcB o)) (fun i hi => by
      obtain ⟨cs', h1, h2⟩ := hx i (by omega)
      obtain ⟨b, off, o, h3⟩ := op_of_trod h1 h2
      exact ⟨o, b, off, h3⟩)
    refine ⟨some a, len, cap, (List.range len).map Z, rfl, by simp, fun o ho => ?_, fun hz => ?_⟩
    · obtain ⟨i, hi, rfl⟩ := List.mem_map.1 ho
      obtain ⟨_, _, _, _, _, h5, _⟩ := hZ i (by simpa using hi)
      exact h5
    · simp only [DataW.weights, Try.underlying22, bytesOpb, List.mem_cons, List.mem_append] at hz
      refine ⟨fun i hi => ?_, ?_⟩
      · have hi' : i < len := by simpa using hi
        obtain ⟨b, off, h1, _⟩ := hZ 0 (by omega)
        have h1' : a = ⟨b, off, none⟩ := by simpa [Addr.add] using h1
        subst h1'
        obtain ⟨b', off', h2, ⟨d0, d1, d2, d3, d4⟩, h4, _, h6⟩ := hZ i hi'
        rw [Go.WideShapes.add_plain] at h2
        simp only [Addr.mk.injEq, and_true] at h2
        obtain ⟨rfl, rfl⟩ := h2
        have hB := h6 (fun z hzz => hz z (.inr (.inl (wAll_mem (ds := (List.range len).map D) (List.mem_map.2 ⟨i, by simpa using hi', rfl⟩) z hzz))))
        have e : ((List.range len).map Z)[i] = Z i := by simp
        rw [e]
        have hlt := cell_ltb d0
        unfold OcB at hB
        simp only [reachBytes] at hB
        exact ⟨b, off, rfl, by omega, hlt, d0, d1, d2, d3, d4, h4, by omega, fun s hs => by have := hB.2 s hs; omega⟩
      · have := hz _ (.inl rfl)
        simp at this
        omega
end Go.Proofs.Ytibdogniiglcjab
/-
  FROM THE READING OF A preludelaw10.Made ARGUMENT TO ITS SNAPSHOT.
-/
namespace Go.Proofs.Ytibdogniiglcjab
open Go.ChangeShapes Go.WideShapes Go.ChangeAt Go.RowKit

/-- the cells of a list of parts of one length -/
theorem flat_at {α : Type} (f : α → List Value) {sz : Nat} (hl : ∀ x, (f x).length = sz) : ∀ (xs : List α) (j : Nat) (u : Value), (xs.flatMap f)[j]? = some u → ∃ i m, ∃ hi : i < xs.length, j = i * sz + m ∧ m < sz ∧ (f xs[i])[m]? = some u
  | [], j, u, h => by simp at h
  | x :: xs, j, u, h => by
    rw [List.flatMap_cons] at h
    by_cases hj : j < sz
    · rw [List.getElem?_append_left (by rw [hl]; exact hj)] at h
      exact ⟨0, j, by simp, by omega, hj, by simpa using h⟩
    · rw [List.getElem?_append_right (by rw [hl]; omega), hl] at h
      obtain ⟨i, m, hi, e, hm, hu⟩ := flat_at f hl xs (j - sz) u h
      refine ⟨i + 1, m, by simp; omega, ?_, hm, by simpa using hu⟩
      rw [Nat.add_mul]
      omega
set_option maxRecDepth 100000 in
/-- a slice of parts -/
theorem slice_of_trod {H : Type} {enc : TypeId × Value → H} {W : World} {TS TE : TypeId} {sz bt : Nat} {α : Type} [Inhabited α] (f : α → List Value) (hl : ∀ x, (f x).length = sz) (h0 : 0 < sz) (P : α → Prop) (Q : α → Prop)
    (hu : Try.prog.underlying TS = some (.slice TE)) (hc : Try.prog.cellsOf TE = sz) (hbt : Try.prog.bytesOf TE = bt)
    (hel : ∀ fuel cs (y : DataW H × List MemPlace), cs.length = sz → DataW.trod enc Try.prog W 0 (fun _ => true) true fuel TE cs = some y → ∃ x, cs = f x ∧ P x ∧ ((∀ z ∈ y.1.weights Try.prog TE, z ≤ reachBytes) → Q x))
    {fuel : Nat} {cs : List Value} {y : DataW H × List MemPlace} (hf : DataW.trod enc Try.prog W 0 (fun _ => true) true fuel TS cs = some y) :
    ∃ (a : Option Addr) (len cap : Nat) (xs : List α), cs = [.slice a len cap] ∧ len = xs.length ∧ (a = none → cap = 0) ∧ CsAt W.heap.size W a (xs.flatMap f) ∧ (∀ x ∈ xs, P x) ∧
      ((∀ z ∈ y.1.weights Try.prog TS, z ≤ reachBytes) → len * bt ≤ reachBytes ∧ ∀ x ∈ xs, Q x) := by
  rcases Deep.open_slice hu hf with ⟨rfl, rfl⟩ | ⟨a, len, cap, m, n, D, Pl, rfl, hb, hle0, hm, hmm, rfl, hx⟩
  · exact ⟨none, 0, 0, [], rfl, rfl, fun _ => rfl, fun j u h => by simp at h, by simp, fun _ => ⟨by simp, by simp⟩⟩
  · have hle : len ≤ m := by rw [hmm]; simpa using hle0
    rw [hc] at hx
    obtain ⟨Z, hZ⟩ := Deep.choose_lt (α := α) (n := len) (p := fun i x => (∃ b off, a.add (i * sz) = ⟨b, off, none⟩ ∧ ∀ j u, (f x)[j]? = some u → W.cell? ⟨b, off + j, none⟩ = some u) ∧ P x ∧ ((∀ z ∈ (D i).weights Try.prog TE, z ≤ reachBytes) → Q x)) (fun i hi => by
      obtain ⟨cs', h1, h2⟩ := hx i (by omega)
      obtain ⟨_, hlen, hcell⟩ := World.cells?_some h1
      obtain ⟨x, rfl, hP, hQ⟩ := hel _ _ _ hlen h2
      refine ⟨x, ?_, hP, hQ⟩
      generalize a.add (i * sz) = ad at *
      obtain ⟨b, off, spot⟩ := ad
      have hspot : spot = none := by
        have e0 := hcell 0 h0
        have h1 : (⟨b, off, spot⟩ : Addr).add 0 = ⟨b, off, spot⟩ := by simp [Addr.add]
        rw [h1, List.getElem?_eq_getElem (by omega)] at e0
        exact World.cell?_spot e0
      subst hspot
      refine ⟨b, off, rfl, fun j u hu => ?_⟩
      have := hcell j (by rw [← hl x]; exact (List.getElem?_eq_some_iff.1 hu).1)
      rw [Go.WideShapes.add_plain] at this
      rw [this]
      exact hu)
    refine ⟨some a, len, cap, (List.range len).map Z, rfl, by simp, by simp, fun j u hju => ?_, fun x hxm => ?_, fun hz => ⟨?_, fun x hxm => ?_⟩⟩
    · obtain ⟨i, m', hi, rfl, hm', hfu⟩ := flat_at f hl _ _ _ hju
      have hi' : i < len := by simpa using hi
      have e : ((List.range len).map Z)[i] = Z i := by simp
      rw [e] at hfu
      obtain ⟨⟨b, off, h1, _⟩, _⟩ := hZ 0 (by omega)
      have h1' : a = ⟨b, off, none⟩ := by simpa [Addr.add] using h1
      subst h1'
      obtain ⟨⟨b', off', h2, h3⟩, _⟩ := hZ i hi'
      rw [Go.WideShapes.add_plain] at h2
      simp only [Addr.mk.injEq, and_true] at h2
      obtain ⟨rfl, rfl⟩ := h2
      have h4 := h3 _ _ hfu
      exact ⟨b, off, rfl, cell_ltb h4, by rw [← Nat.add_assoc]; exact h4⟩
    · obtain ⟨i, hi, rfl⟩ := List.mem_map.1 hxm
      exact (hZ i (by simpa using hi)).2.1
    · simp only [DataW.weights, hu, hbt, List.mem_cons, List.mem_append] at hz
      have h1 := hz _ (.inl rfl)
      simp only [List.length_map, List.length_range] at h1
      exact Nat.le_trans (Nat.mul_le_mul_right _ (by omega)) h1
    · obtain ⟨i, hi, rfl⟩ := List.mem_map.1 hxm
      have hi' : i < len := by simpa using hi
      simp only [DataW.weights, hu, hbt, List.mem_cons, List.mem_append] at hz
      exact (hZ i hi').2.2 (fun z hzz => hz z (.inr (.inl (wAll_mem (ds := (List.range len).map D) (List.mem_map.2 ⟨i, by simpa using hi', rfl⟩) z hzz))))
theorem cellsPin : Try.prog.cellsOf 72 = 2 := by kernel_rfl
theorem bytesPin : Try.prog.bytesOf 72 = 16 := by kernel_rfl
theorem cellsStamp : Try.prog.cellsOf 112 = 4 := by kernel_rfl
theorem bytesStamp : Try.prog.bytesOf 112 = 32 := by kernel_rfl
theorem cellsCell : Try.prog.cellsOf 110 = 2 := by kernel_rfl
theorem cellsBool' : Try.prog.cellsOf 4 = 1 := by kernel_rfl
theorem cellsChain : Try.prog.cellsOf 75 = 3 := by kernel_rfl
theorem bytesChain : Try.prog.bytesOf 75 = 40 := by kernel_rfl
theorem cellsSStamp : Try.prog.cellsOf 73 = 1 := by kernel_rfl
theorem cellsSPin : Try.prog.cellsOf 24 = 1 := by kernel_rfl
theorem cellsSChain : Try.prog.cellsOf 25 = 1 := by kernel_rfl
theorem cellsSnap : Try.prog.cellsOf 27 = 3 := by kernel_rfl
theorem cellsMade : Try.prog.cellsOf 29 = 5 := by kernel_rfl
def pnf (p : Int × Int) : List Value := [.int .i64 p.1, .int .i64 p.2]
def scf (x : Stp) : List Value := [.int .i64 x.b, .int .i64 x.i, .bool x.s, .int .i64 x.v]
def ccf (x : Ch) : List Value := [.int .i64 x.k.1, .int .i64 x.k.2, .slice x.a x.l.length x.c]
theorem pnf_flat : ∀ l : List (Int × Int), l.flatMap pnf = pns l
  | [] => rfl
  | x :: l => by simp [pnf, pns, pnf_flat l]
theorem scf_flat : ∀ l : List Stp, l.flatMap scf = scs l
  | [] => rfl
  | x :: l => by simp [scf, scs, scf_flat l]
theorem ccf_flat : ∀ l : List Ch, l.flatMap ccf = ccs l
  | [] => rfl
  | x :: l => by simp [ccf, ccs, ccf_flat l]
section
variable {H : Type} {enc : TypeId × Value → H} {W : World}
set_option maxRecDepth 100000 in
theorem pins_of_trod {fuel : Nat} {cs : List Value} {y : DataW H × List MemPlace} (hf : DataW.trod enc Try.prog W 0 (fun _ => true) true fuel 24 cs = some y) :
    ∃ (a : Option Addr) (len cap : Nat) (xs : List (Int × Int)), cs = [.slice a len cap] ∧ len = xs.length ∧ (a = none → cap = 0) ∧ CsAt W.heap.size W a (pns xs) ∧ (∀ x ∈ xs, In64 x.1 ∧ In64 x.2) ∧
      ((∀ z ∈ y.1.weights Try.prog 24, z ≤ reachBytes) → len * 16 ≤ reachBytes) := by
  obtain ⟨a, len, cap, xs, h1, h2, h3, h4, h5, h6⟩ := slice_of_trod pnf (sz := 2) (fun _ => rfl) (by omega) (fun x => In64 x.1 ∧ In64 x.2) (fun _ => True) Try.underlying24 cellsPin bytesPin (fun fuel cs y hl hf => by
    obtain ⟨ys, k, hk, hxy, _, hxl, hf⟩ := DataW.trod_struct Try.underlying72 hf
    match ys, hxl, cs, hl with
    | [y0, y1], _, [v0, v1], _ =>
      have g0 := hf 0 _ rfl
      have g1 := hf 1 _ rfl
      simp [cellsInt'] at g0 g1
      obtain ⟨x0, h0, _, wx0⟩ := DataW.trod_int Try.underlying3 g0
      obtain ⟨x1, h1, _, wx1⟩ := DataW.trod_int Try.underlying3 g1
      simp only [List.cons.injEq, and_true] at h0 h1
      subst h0 h1
      exact ⟨(x0, x1), rfl, ⟨bounds_i64 wx0, bounds_i64 wx1⟩, fun _ => trivial⟩) hf
  rw [pnf_flat] at h4
  exact ⟨a, len, cap, xs, h1, h2, h3, h4, h5, fun hz => (h6 hz).1⟩
set_option maxRecDepth 100000 in
theorem stamps_of_trod {fuel : Nat} {cs : List Value} {y : DataW H × List MemPlace} (hf : DataW.trod enc Try.prog W 0 (fun _ => true) true fuel 73 cs = some y) :
    ∃ (a : Option Addr) (len cap : Nat) (xs : List Stp), cs = [.slice a len cap] ∧ len = xs.length ∧ (a = none → cap = 0) ∧ CsAt W.heap.size W a (scs xs) ∧ (∀ x ∈ xs, In64 x.b ∧ In64 x.i) ∧
      ((∀ z ∈ y.1.weights Try.prog 73, z ≤ reachBytes) → len * 32 ≤ reachBytes) := by
  have hI : Inhabited Stp := ⟨⟨0, 0, false, 0⟩⟩
  obtain ⟨a, len, cap, xs, h1, h2, h3, h4, h5, h6⟩ := slice_of_trod scf (sz := 4) (fun _ => rfl) (by omega) (fun x => In64 x.b ∧ In64 x.i) (fun _ => True) Try.underlying73 cellsStamp bytesStamp (fun fuel cs y hl hf => by
    obtain ⟨ys, k, hk, hxy, _, hxl, hf⟩ := DataW.trod_struct Try.underlying112 hf
    match ys, hxl, cs, hl with
    | [y0, y1, y2], _, [v0, v1, v2, v3], _ =>
      have g0 := hf 0 _ rfl
      have g1 := hf 1 _ rfl
      have g2 := hf 2 _ rfl
      simp [cellsInt', cellsCell] at g0 g1 g2
      obtain ⟨x0, h0, _, wx0⟩ := DataW.trod_int Try.underlying3 g0
      obtain ⟨x1, h1, _, wx1⟩ := DataW.trod_int Try.underlying3 g1
      obtain ⟨zs, k', hk', _, _, hzl, hf2⟩ := DataW.trod_struct Try.underlying110 g2
      match zs, hzl with
      | [z0, z1], _ =>
        have f0 := hf2 0 _ rfl
        have f1 := hf2 1 _ rfl
        simp [cellsBool', cellsInt64'] at f0 f1
        obtain ⟨x2, h2, _⟩ := DataW.trod_bool Try.underlying4 f0
        obtain ⟨x3, h3, _, wx3⟩ := DataW.trod_int Try.underlying2 f1
        simp only [List.cons.injEq, and_true] at h0 h1 h2 h3
        subst h0 h1 h2 h3
        exact ⟨⟨x0, x1, x2, x3⟩, rfl, ⟨bounds_i64 wx0, bounds_i64 wx1⟩, fun _ => trivial⟩) hf
  rw [scf_flat] at h4
  exact ⟨a, len, cap, xs, h1, h2, h3, h4, h5, fun hz => (h6 hz).1⟩
set_option maxRecDepth 100000 in
theorem chains_of_trod {fuel : Nat} {cs : List Value} {y : DataW H × List MemPlace} (hf : DataW.trod enc Try.prog W 0 (fun _ => true) true fuel 25 cs = some y) :
    ∃ (a : Option Addr) (len cap : Nat) (xs : List Ch), cs = [.slice a len cap] ∧ len = xs.length ∧ (a = none → cap = 0) ∧ CsAt W.heap.size W a (ccs xs) ∧ (∀ x ∈ xs, CsAt W.heap.size W x.a (scs x.l) ∧ (x.a = none → x.c = 0) ∧ KIn x.k ∧ ∀ v ∈ x.l, In64 v.b ∧ In64 v.i) ∧
      ((∀ z ∈ y.1.weights Try.prog 25, z ≤ reachBytes) → len * 40 ≤ reachBytes ∧ ∀ x ∈ xs, x.l.length * 32 ≤ reachBytes) := by
  have hI : Inhabited Ch := ⟨⟨(0, 0), none, 0, []⟩⟩
  obtain ⟨a, len, cap, xs, h1, h2, h3, h4, h5, h6⟩ := slice_of_trod ccf (sz := 3) (fun _ => rfl) (by omega) (fun x => CsAt W.heap.size W x.a (scs x.l) ∧ (x.a = none → x.c = 0) ∧ KIn x.k ∧ ∀ v ∈ x.l, In64 v.b ∧ In64 v.i) (fun x => x.l.length * 32 ≤ reachBytes) Try.underlying25 cellsChain bytesChain (fun fuel cs y hl hf => by
    obtain ⟨ys, k, hk, hxy, _, hxl, hf⟩ := DataW.trod_struct Try.underlying75 hf
    match ys, hxl, cs, hl with
    | [y0, y1], _, [v0, v1, v2], _ =>
      have g0 := hf 0 _ rfl
      have g1 := hf 1 _ rfl
      simp [cellsKey, cellsSStamp] at g0 g1
      obtain ⟨sa, sn, sc, l, hS, hsn, hs0, hsc, hsi, hsz⟩ := stamps_of_trod g1
      obtain ⟨zs, k', hk', _, _, hzl, hf2⟩ := DataW.trod_struct Try.underlying38 g0
      match zs, hzl with
      | [z0, z1], _ =>
        have f0 := hf2 0 _ rfl
        have f1 := hf2 1 _ rfl
        simp [cellsInt', cellsInt64'] at f0 f1
        obtain ⟨x0, h0, _, wx0⟩ := DataW.trod_int Try.underlying3 f0
        obtain ⟨x1, h1, _, wx1⟩ := DataW.trod_int Try.underlying2 f1
        simp only [List.cons.injEq, and_true] at h0 h1 hS
        subst h0 h1 hS hsn
        refine ⟨⟨(x0, x1), sa, sc, l⟩, rfl, ⟨hsc, hs0, ⟨bounds_i64 wx0, bounds_i64 wx1⟩, hsi⟩, fun hz => hsz (fun z hzz => hz z ?_)⟩
        rw [hxy]
        simp only [DataW.weights, Try.underlying75]
        exact DataW.weights_mem_each (j := 1) (t := 73) (d := y1.1) rfl rfl _ hzz) hf
  rw [ccf_flat] at h4
  exact ⟨a, len, cap, xs, h1, h2, h3, h4, h5, h6⟩
theorem array5 {a : Array Value} (h : a.size = 5) : ∃ c0 c1 c2 c3 c4, a = #[c0, c1, c2, c3, c4] := by
  match a, h with
  | ⟨[c0, c1, c2, c3, c4]⟩, _ => exact ⟨c0, c1, c2, c3, c4, rfl⟩
set_option maxRecDepth 100000 in
/-- a Made -/
theorem made_of_trod {r : Reach} {b0 : Nat} {v : Value} {d : DataW H} {q : List MemPlace} (hv : Value.okWide Try.prog W r b0 29 v)
    (h : DataW.Trod enc Try.prog W 0 (fun _ => true) true 29 v d q) :
    ∃ (cap : Int) (rs : Bool) (s : Sn), v = mdv cap rs s ∧ SnAt W.heap.size W s ∧ ((∀ z ∈ d.weights Try.prog 29, z ≤ reachBytes) → SnIn s) := by
  obtain ⟨cs, rfl, hsz⟩ := okWide_struct Try.underlying29 hv
  obtain ⟨k0, k1, k2, k3, k4, rfl⟩ := array5 (hsz.trans cellsMade)
  obtain ⟨fuel, hf⟩ := h
  obtain ⟨xs, k, hk, hxy, _, hxl, hf⟩ := DataW.trod_struct Try.underlying29 (by simpa [Value.cells] using hf)
  match xs, hxl with
  | [y0, y1, y2], _ =>
    have g0 := hf 0 _ rfl
    have g1 := hf 1 _ rfl
    have g2 := hf 2 _ rfl
    simp [cellsInt', cellsBool', cellsSnap] at g0 g1 g2
    obtain ⟨cap, e0, _, _⟩ := DataW.trod_int Try.underlying3 g0
    obtain ⟨rs, e1, _⟩ := DataW.trod_bool Try.underlying4 g1
    obtain ⟨zs, k', hk', hzy, _, hzl, hf2⟩ := DataW.trod_struct Try.underlying27 g2
    match zs, hzl with
    | [z0, z1, z2], _ =>
      have f0 := hf2 0 _ rfl
      have f1 := hf2 1 _ rfl
      have f2 := hf2 2 _ rfl
      simp [cellsInt', cellsSPin, cellsSChain] at f0 f1 f2
      obtain ⟨la, e2, _, wl⟩ := DataW.trod_int Try.underlying3 f0
      obtain ⟨pa, pn, pc, pins, e3, hpn, hp0, hpc, hpi, hpz⟩ := pins_of_trod f1
      obtain ⟨ca, cn, cc, chs, e4, hcn, hc0, hcc, hci, hcz⟩ := chains_of_trod f2
      simp only [List.cons.injEq, and_true] at e0 e1 e2 e3 e4
      subst e0 e1 e2 e3 e4 hpn hcn
      have hd : d = (DataW.agg [y0.1, y1.1, y2.1]) := by simpa using congrArg Prod.fst hxy
      refine ⟨cap, rs, ⟨la, pa, pc, pins, ca, cc, chs⟩, rfl, ⟨hpc, hcc, fun c hc => (hci c hc).1, hp0, fun c hc => (hci c hc).2.1⟩, fun hz => ?_⟩
      have hz2 : ∀ z ∈ y2.1.weights Try.prog 27, z ≤ reachBytes := fun z hzz => hz z (by
        rw [hd]
        simp only [DataW.weights, Try.underlying29]
        exact DataW.weights_mem_each (j := 2) (t := 27) (d := y2.1) rfl rfl _ hzz)
      have hp1 := hpz (fun z hzz => hz2 z (by
        rw [hzy]
        simp only [DataW.weights, Try.underlying27]
        exact DataW.weights_mem_each (j := 1) (t := 24) (d := z1.1) rfl rfl _ hzz))
      have hc1 := hcz (fun z hzz => hz2 z (by
        rw [hzy]
        simp only [DataW.weights, Try.underlying27]
        exact DataW.weights_mem_each (j := 2) (t := 25) (d := z2.1) rfl rfl _ hzz))
      simp only [reachBytes] at hp1 hc1
      exact ⟨by show pins.length ≤ _; omega, by show chs.length ≤ _; omega, fun c hc => by have := hc1.2 c hc; omega, hpi, fun c hc => (hci c hc).2.2, bounds_i64 wl⟩
end
/-- a script that is nil has no room -/
theorem ops_nil {H : Type} {enc : TypeId × Value → H} {W : World} {fuel : Nat} {a : Option Addr} {len cap : Nat} {y : DataW H × List MemPlace}
    (hf : DataW.trod enc Try.prog W 0 (fun _ => true) true fuel 22 [.slice a len cap] = some y) : a = none → cap = 0 := by
  rcases Deep.open_slice Try.underlying22 hf with ⟨h1, _⟩ | ⟨a', len', cap', m, n, D, Pl, h1, _⟩
  · simp at h1; intro _; exact h1.2.2
  · simp at h1; intro e; rw [h1.1] at e; cases e
end Go.Proofs.Ytibdogniiglcjab
/-
  BookBack: THE ROW.
-/
namespace Go.Proofs.Ytibdogniiglcjab.bookBack
open Go.ChangeShapes Go.WideShapes Go.ChangeAt Go.RowKit

theorem weights_at {H : Type} {ts : List TypeId} {ds : List (DataW H)} {j : Nat} {t : TypeId} {d : DataW H} (h : (DataW.weightsEach Try.prog ts ds).all (· ≤ reachBytes) = true) (ht : ts[j]? = some t) (hd : ds[j]? = some d) : ∀ z ∈ d.weights Try.prog t, z ≤ reachBytes := fun z hz => by
  have := List.all_eq_true.1 h _ (DataW.weights_mem_each ht hd z hz)
  simpa using this
theorem own : ownKnob Try.prog.godebug = none := by kernel_rfl
theorem laidOut : laidOutB Try.prog = true := by kernel_rfl

set_option maxRecDepth 100000 in
theorem lifted (os : Os) (started : os.Started) (H : Type) (enc : TypeId × Value → H) :
    ReturnsInHanded {} Try.checked os 6 .any (Rows.bookBackSpec.pre6 enc Try.prog Try.f6 Rows.bookBackRow.domain false) (Rows.bookBackSpec.post enc Try.prog Try.f6 false true false false) := by
  refine returnsInHanded_of_change_sized (C := Try.checked) own started (by kernel_rfl) Try.func6
    (ChangeSpec.witness6 (enc := enc) (C := Try.checked) false ⟨#[], #[.agg #[.int .i64 0, .bool false, .int .i64 0, .slice none 0 0, .slice none 0 0], .slice none 0 0, .slice none 0 0], []⟩ 8 (by kernel_rfl) (by kernel_rfl) (by kernel_rfl) (by kernel_rfl)) ?_
  intro W base args ds gs before hval0 hW hcnd hsz0 _
  have hval : ∀ (j : Nat) t v, Try.f6.params[j]? = some t → args[j]? = some v → Value.okWide Try.prog W .any base t v := hval0
  have hW' := hW
  obtain ⟨p, q, hA0, hV, rfl, hfz, hnd⟩ := hW
  have hA : DataW.TrodAll enc Try.prog W 0 (fun _ => true) true Try.f6.params.toList args.toList ds p := hA0
  have hsz0 : (DataW.weightsEach Try.prog (Try.f6.params.toList ++ Rows.bookBackSpec.plain.varTypes Try.prog) (ds ++ gs)).all (· ≤ reachBytes) = true := hsz0
  rw [Try.params6] at hA hval hsz0
  obtain ⟨v0, vs0, d0, ds0, p0, q0, hargs, rfl, rfl, h0, r0⟩ := trodAll_cons hA
  obtain ⟨v1, vs1, d1, ds1, p1, q1, rfl, rfl, rfl, h1, r1⟩ := trodAll_cons r0
  obtain ⟨v2, vs2, d2, ds2, p2, q2, rfl, rfl, rfl, h2, r2⟩ := trodAll_cons r1
  obtain ⟨rfl, rfl, rfl⟩ := trodAll_nil r2
  obtain rfl : args = #[v0, v1, v2] := by cases args; simp_all
  obtain ⟨rfl, rfl⟩ := trodVars_none hV
  have k0 := h0
  have lt0 : ∀ x ∈ p0, x.block < W.heap.size := by obtain ⟨m, hm⟩ := k0; exact DataW.trod_lt m _ _ _ hm
  obtain ⟨cap_0, rs_0, s_0, rfl, hs_0, hx0⟩ := made_of_trod (hval 0 29 v0 rfl rfl) h0
  have hsi_0 := hx0 (weights_at hsz0 (j := 0) rfl rfl)
  obtain ⟨a_1, len_1, cap_1, rfl⟩ := okWide_slice Try.underlying22 (hval 1 22 v1 rfl rfl)
  have k1 := h1
  have lt1 : ∀ x ∈ p1, x.block < W.heap.size := by obtain ⟨m, hm⟩ := k1; exact DataW.trod_lt m _ _ _ hm
  obtain ⟨fuel1, hf1⟩ := h1
  obtain ⟨a1', len1', cap1', os_1, hcs1, hn_1, hin_1, hx1⟩ := ops_of_trod hf1
  simp [Value.cells] at hcs1
  obtain ⟨rfl, rfl, rfl⟩ := hcs1
  obtain ⟨hl_1, hr_1⟩ := hx1 (weights_at hsz0 (j := 1) rfl rfl)
  obtain ⟨a_2, len_2, cap_2, rfl⟩ := okWide_slice Try.underlying22 (hval 2 22 v2 rfl rfl)
  have k2 := h2
  have lt2 : ∀ x ∈ p2, x.block < W.heap.size := by obtain ⟨m, hm⟩ := k2; exact DataW.trod_lt m _ _ _ hm
  obtain ⟨fuel2, hf2⟩ := h2
  obtain ⟨a2', len2', cap2', os_2, hcs2, hn_2, hin_2, hx2⟩ := ops_of_trod hf2
  simp [Value.cells] at hcs2
  obtain ⟨rfl, rfl, rfl⟩ := hcs2
  obtain ⟨hl_2, hr_2⟩ := hx2 (weights_at hsz0 (j := 2) rfl rfl)
  simp only [reachBytes] at hr_1 hr_2
  clear hA0 hval0
  refine (lawBkBack W cap_0 rs_0 s_0 hs_0 hsi_0 a_1 len_1 cap_1 os_1 hn_1 hl_1 hin_1 (by omega) a_2 len_2 cap_2 os_2 hn_2 hl_2 hin_2 (by omega)).mono fun e W' hp => ?_
  obtain ⟨he, bel⟩ := hp
  subst he
  exact ⟨_, rfl, _, _, _, [], _, [], hW', trodAll_mk1 (shut_bool Try.underlying4 _), (trodAll_cons_mk (Below.trod laidOut (by kernel_rfl) (of_decide_eq_true (by kernel_rfl)) k0 bel lt0) (trodAll_cons_mk (Below.trod laidOut (by kernel_rfl) (of_decide_eq_true (by kernel_rfl)) k1 bel lt1) (trodAll_cons_mk (Below.trod laidOut (by kernel_rfl) (of_decide_eq_true (by kernel_rfl)) k2 bel lt2) trodAll_mk0))), rfl, bel.frame _, fun h => by cases h⟩

theorem proved : Rows.BookBackSaid :=
  OpenClaim.holds_of_wide 6 Try.f6 rfl rfl rfl rfl rfl rfl rfl ⟨rfl, rfl, rfl, rfl, rfl⟩ rfl rfl rfl rfl rfl (by kernel_rfl) Try.func6 (by kernel_rfl)
    (of_decide_eq_true (by kernel_rfl)) (by unfold Func.isWrapper; first | (rw [if_pos (by decide +kernel)]; kernel_rfl) | (rw [if_neg (by decide +kernel)]; exact ⟨rfl, rfl⟩))
    (fun os started H enc _ => lifted os started H enc)
end Go.Proofs.Ytibdogniiglcjab.bookBack
namespace Go.Proofs.Ytibdogniiglcjab
theorem bookBack_holds : Rows.BookBackSaid := bookBack.proved
#print axioms bookBack_holds
end Go.Proofs.Ytibdogniiglcjab
