import Derived.Test.YtibdogniiglcjabJBkShortM
import Derived.Test.YtibdogniiglcjabJBkLent
import Derived.Test.YtibdogniiglcjabJBkShortH
import Derived.Test.YtibdogniiglcjabJBkVers
import Derived.Test.YtibdogniiglcjabKLst
import Derived.Deep.RegionHeld3
import Derived.Test.YtibdogniiglcjabJBkWgt
import Derived.Test.YtibdogniiglcjabBkCopy
import Derived.Deep.CutRange
import Derived.BigQuiet
import Derived.Test.YtibdogniiglcjabKList
import Derived.SizedLaws
import Derived.Lib.SmallJoins
import Derived.Deep.Slices
import Derived.ChangeOld
import Derived.ProofKit
import Derived.OpenShut
/-
  TWO BOOKS THAT TELL THE SAME: MATHEMATICS.
-/
namespace Go.Proofs.Ytibdogniiglcjab
open Go.RowKit Go.Sort

structure Eqv (s t : Bs) : Prop where
  la : s.la = t.la
  fl : s.fl = t.fl
  pn : ∀ n, fpn s.pins n = fpn t.pins n
  al : ∀ k, ofV k s.all = ofV k t.all
theorem Eqv.refl (s : Bs) : Eqv s s := ⟨rfl, rfl, fun _ => rfl, fun _ => rfl⟩
theorem Eqv.symm {s t : Bs} (h : Eqv s t) : Eqv t s := ⟨h.la.symm, h.fl.symm, fun n => (h.pn n).symm, fun k => (h.al k).symm⟩
theorem fpn_mem (pins : List (Int × Int)) (n : Int) : n ∈ pins.map Prod.fst ↔ (fpn pins n).isSome = true := by
  constructor
  · intro h
    cases hf : fpn pins n with
    | none =>
      obtain ⟨p, hp, rfl⟩ := List.mem_map.1 h
      exact absurd rfl (fpn_none hf p hp)
    | some c => rfl
  · intro h
    obtain ⟨c, hc⟩ := Option.isSome_iff_exists.1 h
    obtain ⟨A, C, rfl⟩ := fpn_some hc
    simp
/-- what is found is what stands -/
theorem fpn_at {A C : List (Int × Int)} {n c : Int} (h : ((A ++ (n, c) :: C).map Prod.fst).Nodup) : fpn (A ++ (n, c) :: C) n = some c := by
  have hA : ∀ p ∈ A, p.1 ≠ n := fun p hp e => by
    rw [List.map_append, List.map_cons, List.nodup_append] at h
    exact h.2.2 p.1 (List.mem_map.2 ⟨p, hp, rfl⟩) n (by simp) e
  unfold fpn
  rw [List.find?_append, List.find?_eq_none.2 (fun p hp => by simpa using hA p hp)]
  simp
theorem fpn_oth {A C : List (Int × Int)} {n c m : Int} (h : m ≠ n) : fpn (A ++ (n, c) :: C) m = fpn (A ++ C) m := by
  unfold fpn
  rw [List.find?_append, List.find?_append, List.find?_cons_of_neg (by simpa using fun e => h e.symm)]
theorem fpn_absent {l : List (Int × Int)} {n : Int} (h : n ∉ l.map Prod.fst) : fpn l n = none := by
  cases hf : fpn l n with
  | none => rfl
  | some c => exact absurd ((fpn_mem l n).2 (by rw [hf]; rfl)) h
theorem Pinned.fpn {p p' : List (Int × Int)} {n : Int} (h : Pinned p p' n) (hn : (p.map Prod.fst).Nodup) (m : Int) : fpn p' m = if m = n then some ((fpn p n).getD 0 + 1) else fpn p m := by
  rcases h with ⟨h0, rfl⟩ | ⟨A, c, C, rfl, rfl⟩
  · by_cases e : m = n
    · subst e
      rw [if_pos rfl, h0]
      have := fpn_at (A := p) (C := []) (n := m) (c := 1) (by
        rw [List.map_append, List.nodup_append]
        refine ⟨hn, by simp, fun a ha b hb e => ?_⟩
        simp at hb
        obtain ⟨q, hq, rfl⟩ := List.mem_map.1 ha
        exact fpn_none h0 q hq (e.trans hb))
      rw [this]
      rfl
    · rw [if_neg e, fpn_oth e, List.append_nil]
  · by_cases e : m = n
    · subst e
      rw [if_pos rfl, fpn_at hn, fpn_at (by simpa using hn)]
      rfl
    · rw [if_neg e, fpn_oth e, fpn_oth e]
theorem Unpinned.fpn {p p' : List (Int × Int)} {n : Int} (h : Unpinned p p' n) (hn : (p.map Prod.fst).Nodup) (m : Int) : fpn p' m = if m = n then (if (fpn p n) = some 1 then none else some ((fpn p n).getD 0 - 1)) else fpn p m := by
  obtain ⟨A, c, C, rfl, h⟩ := h
  have h1 := fpn_at hn
  by_cases e : m = n
  · subst e
    rw [if_pos rfl, h1]
    rcases h with ⟨rfl, rfl⟩ | ⟨hc, rfl⟩
    · rw [if_pos rfl]
      refine fpn_absent ?_
      rw [List.map_append, List.map_cons, List.nodup_append] at hn
      rw [List.map_append, List.mem_append]
      rintro (h | h)
      · exact hn.2.2 _ h _ (by simp) rfl
      · exact (List.nodup_cons.1 hn.2.1).1 h
    · rw [if_neg (by simpa using hc), fpn_at (by simpa using hn)]
      rfl
  · rw [if_neg e, fpn_oth e]
    rcases h with ⟨_, rfl⟩ | ⟨_, rfl⟩
    · rfl
    · rw [fpn_oth e]
theorem ofV_count (v : V4) (l : List V4) : List.count v l = List.count v (ofV v.1 l) := by
  unfold ofV
  rw [List.count_filter (by simp)]
theorem Eqv.perm {s t : Bs} (h : Eqv s t) : s.all.Perm t.all := by
  rw [List.perm_iff_count]
  intro v
  rw [ofV_count, ofV_count v t.all, h.al]
theorem Eqv.len {s t : Bs} (h : Eqv s t) : s.all.length = t.all.length := h.perm.length_eq
theorem Eqv.pmem {s t : Bs} (h : Eqv s t) (n : Int) : n ∈ s.pins.map Prod.fst ↔ n ∈ t.pins.map Prod.fst := by rw [fpn_mem, fpn_mem, h.pn]
theorem Eqv.plen {s t : Bs} (h : Eqv s t) (hs : (s.pins.map Prod.fst).Nodup) (ht : (t.pins.map Prod.fst).Nodup) : s.pins.length = t.pins.length := by
  have := ((List.perm_ext_iff_of_nodup hs ht).2 h.pmem).length_eq
  simpa using this
/-- lists that rise and hold the same are one -/
theorem rise_ints : ∀ {l m : List Int}, l.Pairwise (· < ·) → m.Pairwise (· < ·) → (∀ x, x ∈ l ↔ x ∈ m) → l = m
  | [], [], _, _, _ => rfl
  | [], y :: m, _, _, h => absurd ((h y).2 (by simp)) (by simp)
  | x :: l, [], _, _, h => absurd ((h x).1 (by simp)) (by simp)
  | x :: l, y :: m, hl, hm, h => by
    rw [List.pairwise_cons] at hl hm
    have hxy : x = y := by
      rcases List.mem_cons.1 ((h x).1 (by simp)) with e | e
      · exact e
      · rcases List.mem_cons.1 ((h y).2 (by simp)) with e' | e'
        · exact e'.symm
        · have := hm.1 x e
          have := hl.1 y e'
          omega
    subst hxy
    rw [rise_ints hl.2 hm.2 (fun z => ?_)]
    constructor
    · intro hz
      rcases List.mem_cons.1 ((h z).1 (by simp [hz])) with e | e
      · have := hl.1 z hz; omega
      · exact e
    · intro hz
      rcases List.mem_cons.1 ((h z).2 (by simp [hz])) with e | e
      · have := hm.1 z hz; omega
      · exact e
theorem BA.pnd {w : World} {B Mp Mc Mn : Nat} {cap la fl : Int} {pins : List (Int × Int)} {all : List V4} {nw : List K} (h : BA w B Mp Mc Mn cap la fl pins all nw) : (pins.map Prod.fst).Nodup := by
  have := h.mp.kn
  simpa [List.map_map, Function.comp_def] using this
theorem BA.nwk {w : World} {B Mp Mc Mn : Nat} {cap la fl : Int} {pins : List (Int × Int)} {all : List V4} {nw : List K} (h : BA w B Mp Mc Mn cap la fl pins all nw) : ∀ k ∈ nw, isKey k = true := fun k hk => by
  obtain ⟨v, hv, rfl⟩ := (h.nwa k).1 hk
  exact h.ik v hv
theorem ofV_mem {k : K} {l : List V4} : (∃ v ∈ l, v.1 = k) ↔ ofV k l ≠ [] := by
  constructor
  · rintro ⟨v, hv, rfl⟩ e
    have : v ∈ ofV v.1 l := List.mem_filter.2 ⟨hv, by simp⟩
    rw [e] at this
    cases this
  · intro h
    cases hl : ofV k l with
    | nil => exact absurd hl h
    | cons v r =>
      have : v ∈ ofV k l := by rw [hl]; simp
      obtain ⟨h1, h2⟩ := List.mem_filter.1 this
      exact ⟨v, h1, by simpa using h2⟩
/-- the keys are the same -/
theorem keys_same {w : World} {B Mp Mc Mn B2 Mp2 Mc2 Mn2 : Nat} {cap cap2 la fl la2 fl2 : Int} {pins pins2 : List (Int × Int)} {all all2 : List V4} {nw nw2 : List K} (h : BA w B Mp Mc Mn cap la fl pins all nw) (h2 : BA w B2 Mp2 Mc2 Mn2 cap2 la2 fl2 pins2 all2 nw2) (he : ∀ k, ofV k all = ofV k all2) : sortK nw = sortK nw2 := by
  refine rise_unique (sortK_rise h.nwk) (sortK_rise h2.nwk) (fun k => ?_)
  rw [sortK_mem, sortK_mem, h.nwa, h2.nwa, ofV_mem, ofV_mem, he]
theorem ofV_append' (k : K) (A C : List V4) : ofV k (A ++ C) = ofV k A ++ ofV k C := by simp [ofV]
/-- one call on both -/
theorem Eqv.call {cap : Int} {o : Oc} {s t s' t' : Bs} {r r' : Bool} (h : Eqv s t) (hs : (s.pins.map Prod.fst).Nodup) (ht : (t.pins.map Prod.fst).Nodup) (h1 : DoR cap o s s' r) (h2 : DoR cap o t t' r') : r = r' ∧ Eqv s' t' := by
  have hadm : admE cap s.la s.all o.L = admE cap t.la t.all o.L := by unfold admE; rw [h.la, h.len]
  have hpin : pinE s.la s.fl s.pins o.m = pinE t.la t.fl t.pins o.m := by unfold pinE; rw [h.la, h.fl, h.pn, h.plen hs ht]
  cases h1 with
  | admNo k e =>
    cases h2 with
    | admNo _ _ => exact ⟨rfl, h⟩
    | admYes _ e2 => exact absurd (hadm.trans e2) e
    | pinNo k2 _ => omega
    | pinYes _ k2 _ _ => omega
    | unpNo k2 _ => omega
    | unpYes _ k2 _ _ => omega
    | coll _ _ k2 => omega
    | oth k2 _ _ _ => omega
  | admYes k e =>
    cases h2 with
    | admNo _ e2 => exact absurd (hadm.symm.trans e) e2
    | admYes _ e2 => exact ⟨rfl, by show s.la + 1 = t.la + 1; rw [h.la], h.fl, h.pn, fun k => by show ofV k (s.all ++ _) = ofV k (t.all ++ _); rw [ofV_append', ofV_append', h.al, h.la]⟩
    | pinNo k2 _ => omega
    | pinYes _ k2 _ _ => omega
    | unpNo k2 _ => omega
    | unpYes _ k2 _ _ => omega
    | coll _ _ k2 => omega
    | oth k2 _ _ _ => omega
  | pinNo k e =>
    cases h2 with
    | admNo k2 _ => omega
    | admYes k2 _ => omega
    | pinNo _ _ => exact ⟨rfl, h⟩
    | pinYes _ _ e2 _ => exact absurd (hpin.trans e2) e
    | unpNo k2 _ => omega
    | unpYes _ k2 _ _ => omega
    | coll _ _ k2 => omega
    | oth _ k2 _ _ => omega
  | pinYes p1 k e hp =>
    cases h2 with
    | admNo k2 _ => omega
    | admYes k2 _ => omega
    | pinNo _ e2 => exact absurd (hpin.symm.trans e) e2
    | pinYes p2 _ e2 hp2 => exact ⟨rfl, h.la, h.fl, fun n => by show Go.Proofs.Ytibdogniiglcjab.fpn p1 n = Go.Proofs.Ytibdogniiglcjab.fpn p2 n; rw [hp.fpn hs, hp2.fpn ht, h.pn, h.pn], h.al⟩
    | unpNo k2 _ => omega
    | unpYes _ k2 _ _ => omega
    | coll _ _ k2 => omega
    | oth _ k2 _ _ => omega
  | unpNo k e =>
    cases h2 with
    | admNo k2 _ => omega
    | admYes k2 _ => omega
    | pinNo k2 _ => omega
    | pinYes _ k2 _ _ => omega
    | unpNo _ _ => exact ⟨rfl, h⟩
    | unpYes _ _ e2 _ => rw [← h.pn, e] at e2; cases e2
    | coll _ _ k2 => omega
    | oth _ _ k2 _ => omega
  | unpYes p1 k e hp =>
    cases h2 with
    | admNo k2 _ => omega
    | admYes k2 _ => omega
    | pinNo k2 _ => omega
    | pinYes _ k2 _ _ => omega
    | unpNo _ e2 => rw [h.pn, e2] at e; cases e
    | unpYes p2 _ e2 hp2 => exact ⟨rfl, h.la, h.fl, fun n => by show Go.Proofs.Ytibdogniiglcjab.fpn p1 n = Go.Proofs.Ytibdogniiglcjab.fpn p2 n; rw [hp.fpn hs, hp2.fpn ht, h.pn, h.pn], h.al⟩
    | coll _ _ k2 => omega
    | oth _ _ k2 _ => omega
  | coll d a1 k hd1 hd2 hc =>
    cases h2 with
    | admNo k2 _ => omega
    | admYes k2 _ => omega
    | pinNo k2 _ => omega
    | pinYes _ k2 _ _ => omega
    | unpNo k2 _ => omega
    | unpYes _ k2 _ _ => omega
    | coll d2 a2 _ he1 he2 hc2 =>
      refine ⟨rfl, h.la, h.la, h.pn, fun k => ?_⟩
      show ofV k a1 = ofV k a2
      rw [hc.2, hc2.2, h.al]
      exact kpt_d (fun x => by rw [hd2.mem_iff, he2.mem_iff, h.pmem]) _
    | oth _ _ _ k2 => omega
  | oth k0 k1 k2 k3 =>
    cases h2 with
    | admNo k _ => omega
    | admYes k _ => omega
    | pinNo k _ => omega
    | pinYes _ k _ _ => omega
    | unpNo k _ => omega
    | unpYes _ k _ _ => omega
    | coll _ _ k => omega
    | oth _ _ _ _ => exact ⟨rfl, h⟩
theorem DoR.same {cap : Int} {o : Oc} {s s' : Bs} (h : DoR cap o s s' true) : s' = s := by
  cases h <;> rfl
theorem DoR.pin {cap : Int} {o : Oc} {s s' : Bs} {r : Bool} (h : DoR cap o s s' r) (hk : o.kind = 1) : r = true ↔ pinE s.la s.fl s.pins o.m ≠ 0 := by
  cases h with
  | pinNo _ e => exact ⟨fun _ => e, fun _ => rfl⟩
  | pinYes _ _ e _ => exact ⟨fun h => Bool.noConfusion h, fun h => absurd e h⟩
  | admNo k _ => omega
  | admYes k _ => omega
  | unpNo k _ => omega
  | unpYes _ k _ _ => omega
  | coll _ _ k => omega
  | oth _ k _ _ => omega
theorem DoR.unp {cap : Int} {o : Oc} {s s' : Bs} {r : Bool} (h : DoR cap o s s' r) (hk : o.kind = 2) : r = true ↔ o.m ∉ s.pins.map Prod.fst := by
  rw [fpn_mem]
  cases h with
  | unpNo _ e => rw [e]; simp
  | unpYes _ _ e _ => rw [e]; simp
  | admNo k _ => omega
  | admYes k _ => omega
  | pinNo k _ => omega
  | pinYes _ k _ _ => omega
  | coll _ _ k => omega
  | oth _ _ k _ => omega
end Go.Proofs.Ytibdogniiglcjab
/-
  sameKeys, samePlaces, samePins, AT LIKE LISTS; THE BOOK'S LISTS AS LISTS OF TWO INTS EACH.
-/
namespace Go.Proofs.Ytibdogniiglcjab
open Go.RowKit Go.Sort

theorem KeysAt.get2 {w : World} {ao : Option Addr} {L : List K} (h : KeysAt w ao L) (k : Nat) (hk : k < L.length) : ∃ b off, ao = some ⟨b, off, none⟩ ∧ w.cell? ⟨b, off + k * 2, none⟩ = some (.int .i64 (kd L k).1) ∧ w.cell? ⟨b, off + k * 2 + 1, none⟩ = some (.int .i64 (kd L k).2) := by
  rcases h with h0 | ⟨b, off, rfl, hc⟩
  · rw [h0] at hk; simp at hk
  · exact ⟨b, off, rfl, KeysAt.at hc k hk⟩
theorem eqPlace : (∀ (x y : Int × Int) (w : World), Sem.run Try.prog (binOp .neq 86 (.agg #[.int .i64 x.1, .int .i64 x.2]) (.agg #[.int .i64 y.1, .int .i64 y.2])) w = .ok (.bool (!decide (x = y))) w) := fun x y w => by
  have u3 := Try.underlying3
  have a3 := Try.isAgg3
  have z3 := Try.sizeOf3
  have hS : Try.prog.underlying 86 = some (.struct (Try.prog.fieldsOf 86)) := by kernel_rfl
  have hp : Try.prog.stoodInHeld 86 = false := by kernel_rfl
  rw [run_neq_struct, show (10000 : Nat) = 9999 + 1 from rfl, run_equalIn_agg w 9999 86 _ _ hS hp]
  simp only [Program.fieldsOf, Try.underlying86]
  go_simp
  obtain ⟨x1, x2⟩ := x
  obtain ⟨y1, y2⟩ := y
  by_cases h1 : x1 = y1 <;> by_cases h2 : x2 = y2 <;> simp [h1, h2]
theorem gdPlace (op : BinOp) (a b : Operand) (x1 x2 y1 y2 : Int) (w : World) : Sem.run Try.prog (eqGuard op 86 a b (.agg #[.int .i64 x1, .int .i64 x2]) (.agg #[.int .i64 y1, .int .i64 y2])) w = .ok () w := by
  exact GuardAt.agg (P := Try.prog) (T := 86) (fun x : K => #[.int .i64 x.1, .int .i64 x.2]) (by kernel_rfl) op a b (x1, x2) (y1, y2) w
theorem eqPin : (∀ (x y : Int × Int) (w : World), Sem.run Try.prog (binOp .neq 72 (.agg #[.int .i64 x.1, .int .i64 x.2]) (.agg #[.int .i64 y.1, .int .i64 y.2])) w = .ok (.bool (!decide (x = y))) w) := fun x y w => by
  have u3 := Try.underlying3
  have a3 := Try.isAgg3
  have z3 := Try.sizeOf3
  have hS : Try.prog.underlying 72 = some (.struct (Try.prog.fieldsOf 72)) := by kernel_rfl
  have hp : Try.prog.stoodInHeld 72 = false := by kernel_rfl
  rw [run_neq_struct, show (10000 : Nat) = 9999 + 1 from rfl, run_equalIn_agg w 9999 72 _ _ hS hp]
  simp only [Program.fieldsOf, Try.underlying72]
  go_simp
  obtain ⟨x1, x2⟩ := x
  obtain ⟨y1, y2⟩ := y
  by_cases h1 : x1 = y1 <;> by_cases h2 : x2 = y2 <;> simp [h1, h2]
theorem gdPin (op : BinOp) (a b : Operand) (x1 x2 y1 y2 : Int) (w : World) : Sem.run Try.prog (eqGuard op 72 a b (.agg #[.int .i64 x1, .int .i64 x2]) (.agg #[.int .i64 y1, .int .i64 y2])) w = .ok () w := by
  exact GuardAt.agg (P := Try.prog) (T := 72) (fun x : K => #[.int .i64 x.1, .int .i64 x.2]) (by kernel_rfl) op a b (x1, x2) (y1, y2) w
set_option maxHeartbeats 1000000 in
theorem sameKeys_eq (w : World) (ao bo : Option Addr) (n cap cb : Nat) (L : List K) (h1 : KeysAt w ao L) (h2 : KeysAt w bo L) (hn : n = L.length) (hm : n ≤ 8796093022208) :
    Calls Try.prog 50 #[.slice ao n cap, .slice bo n cb] w fun e w' => e = .returned (.bool true) ∧ ∃ q, w' = w.drewN q := by
  have H1 : Hid (KeysAt w ao L) := h1
  have H2 : Hid (KeysAt w bo L) := h2
  have HN : Hid (n = L.length) := hn
  clear h1 h2 hn
  go_enter Try.func50, Try.ntmps50
  go_wp2_with fail
  go_loopw [5] (fun x wr => ∃ k q : Nat, k ≤ n ∧ x = .int .i64 (k : Int) ∧ wr = w.drewN q) (fun x _ => n - (intOf x).toNat)
  case atStart => exact ⟨0, 0, Nat.zero_le _, rfl, rfl⟩
  case round =>
    obtain ⟨k, q, hk, rfl, rfl⟩ := hrel
    by_cases hlt : k < n
    · have hlt' : k < L.length := by have := HN.out; omega
      obtain ⟨b, off, rfl, e1, e2⟩ := KeysAt.get2 H1.out k hlt'
      obtain ⟨d, doff, rfl, e3, e4⟩ := KeysAt.get2 H2.out k hlt'
      generalize kd L k = kk at *
      obtain ⟨u, s⟩ := kk
      simp only at e1 e2 e3 e4
      have hq := run_neKey u s u s
      have hgd := fun op x y => run_eqGuard op x y u s u s
      simp only [decide_true, Bool.not_true] at hq
      go_wp2_with fail
      go_quiet (fail)
      go_wp2_with fail
      go_roundw
      case rel => exact ⟨k + 1, q + nq, by omega, by go_num, rfl⟩
      case measure => simp [intOf]; omega
    · obtain rfl : k = n := by omega
      go_wp2
      go_ret
      exact ⟨rfl, q, rfl⟩
set_option maxHeartbeats 1000000 in
theorem samePlaces_eq (w : World) (ao bo : Option Addr) (n cap cb : Nat) (L : List K) (h1 : KeysAt w ao L) (h2 : KeysAt w bo L) (hn : n = L.length) (hm : n ≤ 8796093022208) :
    Calls Try.prog 52 #[.slice ao n cap, .slice bo n cb] w fun e w' => e = .returned (.bool true) ∧ ∃ q, w' = w.drewN q := by
  have H1 : Hid (KeysAt w ao L) := h1
  have H2 : Hid (KeysAt w bo L) := h2
  have HN : Hid (n = L.length) := hn
  clear h1 h2 hn
  go_enter Try.func52, Try.ntmps52
  go_wp2_with fail
  go_loopw [5] (fun x wr => ∃ k q : Nat, k ≤ n ∧ x = .int .i64 (k : Int) ∧ wr = w.drewN q) (fun x _ => n - (intOf x).toNat)
  case atStart => exact ⟨0, 0, Nat.zero_le _, rfl, rfl⟩
  case round =>
    obtain ⟨k, q, hk, rfl, rfl⟩ := hrel
    by_cases hlt : k < n
    · have hlt' : k < L.length := by have := HN.out; omega
      obtain ⟨b, off, rfl, e1, e2⟩ := KeysAt.get2 H1.out k hlt'
      obtain ⟨d, doff, rfl, e3, e4⟩ := KeysAt.get2 H2.out k hlt'
      generalize kd L k = kk at *
      obtain ⟨u, s⟩ := kk
      simp only at e1 e2 e3 e4
      have hq := eqPlace (u, s) (u, s)
      have hgd := fun op x y => gdPlace op x y u s u s
      simp only [decide_true, Bool.not_true] at hq
      go_wp2_with fail
      go_quiet (fail)
      go_wp2_with fail
      go_roundw
      case rel => exact ⟨k + 1, q + nq, by omega, by go_num, rfl⟩
      case measure => simp [intOf]; omega
    · obtain rfl : k = n := by omega
      go_wp2
      go_ret
      exact ⟨rfl, q, rfl⟩
set_option maxHeartbeats 1000000 in
theorem samePins_eq (w : World) (ao bo : Option Addr) (n cap cb : Nat) (L : List K) (h1 : KeysAt w ao L) (h2 : KeysAt w bo L) (hn : n = L.length) (hm : n ≤ 8796093022208) :
    Calls Try.prog 51 #[.slice ao n cap, .slice bo n cb] w fun e w' => e = .returned (.bool true) ∧ ∃ q, w' = w.drewN q := by
  have H1 : Hid (KeysAt w ao L) := h1
  have H2 : Hid (KeysAt w bo L) := h2
  have HN : Hid (n = L.length) := hn
  clear h1 h2 hn
  go_enter Try.func51, Try.ntmps51
  go_wp2_with fail
  go_loopw [5] (fun x wr => ∃ k q : Nat, k ≤ n ∧ x = .int .i64 (k : Int) ∧ wr = w.drewN q) (fun x _ => n - (intOf x).toNat)
  case atStart => exact ⟨0, 0, Nat.zero_le _, rfl, rfl⟩
  case round =>
    obtain ⟨k, q, hk, rfl, rfl⟩ := hrel
    by_cases hlt : k < n
    · have hlt' : k < L.length := by have := HN.out; omega
      obtain ⟨b, off, rfl, e1, e2⟩ := KeysAt.get2 H1.out k hlt'
      obtain ⟨d, doff, rfl, e3, e4⟩ := KeysAt.get2 H2.out k hlt'
      generalize kd L k = kk at *
      obtain ⟨u, s⟩ := kk
      simp only at e1 e2 e3 e4
      have hq := eqPin (u, s) (u, s)
      have hgd := fun op x y => gdPin op x y u s u s
      simp only [decide_true, Bool.not_true] at hq
      go_wp2_with fail
      go_quiet (fail)
      go_wp2_with fail
      go_roundw
      case rel => exact ⟨k + 1, q + nq, by omega, by go_num, rfl⟩
      case measure => simp [intOf]; omega
    · obtain rfl : k = n := by omega
      go_wp2
      go_ret
      exact ⟨rfl, q, rfl⟩
/-- the pins as a book tells them -/
def pnl (pins : List (Int × Int)) (d : List Int) : List K := d.map (fun n => (n, (fpn pins n).getD 0))
theorem pcs_cks (pins : List (Int × Int)) : ∀ d, pcs pins d = cks (pnl pins d)
  | [] => rfl
  | n :: d => by simp only [pcs, pnl, List.map_cons, cks]; rw [pcs_cks pins d]; rfl
theorem row_at {w : World} {base : Nat} {T : TypeId} {v : Value} {L : List K} (h : w.ownsRow base T 2 v L.length (cks L)) : ∃ ao c, v = .slice ao L.length c ∧ KeysAt w ao L := by
  obtain ⟨_, ⟨rfl, h0⟩ | ⟨g, cp, cur, rfl, h1, h2, h3, h4, h5, h6⟩⟩ := h
  · have : L = [] := List.eq_nil_of_length_eq_zero h0
    subst this
    exact ⟨none, 0, rfl, .inl rfl⟩
  · refine ⟨some ⟨g, 0, none⟩, cp, rfl, .inr ⟨g, 0, rfl, fun j u hu => ?_⟩⟩
    rw [World.cell?, h2, Nat.zero_add]
    rw [← h6, List.getElem?_take] at hu
    split at hu
    · simpa using hu
    · cases hu
end Go.Proofs.Ytibdogniiglcjab
/-
  alike, pinned: TWO BOOKS THAT TELL THE SAME.
-/
namespace Go.Proofs.Ytibdogniiglcjab
open Go.RowKit Go.Sort

theorem BA.nwl {w : World} {B Mp Mc Mn : Nat} {cap la fl : Int} {pins : List (Int × Int)} {all : List V4} {nw : List K} (h : BA w B Mp Mc Mn cap la fl pins all nw) : nw.length ≤ 65536 := by
  have hnd : nw.Nodup := by have := h.mn.kn; simpa [List.map_map, Function.comp_def] using this
  have h1 := nodup_len nw (all.map Prod.fst) hnd (fun k hk => by
    obtain ⟨v, hv, rfl⟩ := (h.nwa k).1 hk
    exact List.mem_map.2 ⟨v, hv, rfl⟩)
  have h2 := h.ln
  have h3 := h.cp
  simp at h1
  omega
theorem BA.nkin {w : World} {B Mp Mc Mn : Nat} {cap la fl : Int} {pins : List (Int × Int)} {all : List V4} {nw : List K} (h : BA w B Mp Mc Mn cap la fl pins all nw) : ∀ k ∈ sortK nw, KIn k := fun k hk => by
  have h1 := (sortK_mem nw k).1 hk
  exact h.mn.dm (k, pv (nf f0 all k)) (List.mem_map.2 ⟨k, h1, rfl⟩)
theorem tell_keys {W : World} {B Mp Mc Mn : Nat} {cap la fl : Int} {pins : List (Int × Int)} {all : List V4} {nw : List K} (h : BA W B Mp Mc Mn cap la fl pins all nw) (S : List K) (hS : sortK nw = S) (n : Nat) (hn : n = S.length) :
    Calls Try.prog 22 #[ptr B] W fun e w' => ∃ ka kc, e = .returned (.slice ka n kc) ∧ KeysAt w' ka S ∧ Below W.heap.size W w' := by
  subst hn hS
  refine (keysB_any W B Mp Mc Mn cap la fl pins all nw h).mono ?_
  rintro e X ⟨v, rfl, ho, _, hb⟩
  obtain ⟨ka, kc, rfl, hka, _, _⟩ := ho.slice
  exact ⟨ka, kc, rfl, hka, hb⟩
theorem tell_pins {W : World} {B Mp Mc Mn : Nat} {cap la fl : Int} {pins : List (Int × Int)} {all : List V4} {nw : List K} (h : BA W B Mp Mc Mn cap la fl pins all nw) (d : List Int) (hd1 : d.Pairwise (· < ·)) (hd2 : ∀ x, x ∈ d ↔ x ∈ pins.map Prod.fst) (n : Nat) (hn : n = d.length) :
    Calls Try.prog 23 #[ptr B] W fun e w' => ∃ ka kc, e = .returned (.slice ka n kc) ∧ KeysAt w' ka (pnl pins d) ∧ Below W.heap.size W w' := by
  subst hn
  refine (pins_any W B Mp Mc Mn cap la fl pins all nw h).mono ?_
  rintro e X ⟨v, d2, rfl, h1, h2, ho, hb⟩
  have hd : d2 = d := rise_ints h1 hd1 (fun x => by rw [h2.mem_iff, hd2])
  subst hd
  have hl : d2.length = (pnl pins d2).length := by simp [pnl]
  rw [pcs_cks, hl] at ho
  obtain ⟨ka, kc, rfl, hka⟩ := row_at ho
  rw [← hl]
  exact ⟨ka, kc, rfl, hka, hb⟩
theorem tell_vers {W : World} {B Mp Mc Mn : Nat} {cap la fl : Int} {pins : List (Int × Int)} {all : List V4} {nw : List K} (h : BA W B Mp Mc Mn cap la fl pins all nw) (k : K) (hk : KIn k) (l : List V4) (hl : ofV k all = l) (n : Nat) (hn : n = l.length) :
    Calls Try.prog 24 #[ptr B, kv k] W fun e w' => ∃ ka kc, e = .returned (.slice ka n kc) ∧ KeysAt w' ka (plk l) ∧ Below W.heap.size W w' := by
  subst hn hl
  refine (versions_any W B Mp Mc Mn cap la fl pins all nw h k hk).mono ?_
  rintro e X ⟨v, rfl, ho, hb⟩
  have hl : (ofV k all).length = (plk (ofV k all)).length := by simp [plk]
  obtain ⟨ka, kc, rfl, hka⟩ := row_at ho
  rw [← hl]
  exact ⟨ka, kc, rfl, hka, hb⟩
/-- the pinned batches, rising -/
theorem pins_rise (pins : List (Int × Int)) (h : (pins.map Prod.fst).Nodup) : ∃ d : List Int, d.Pairwise (· < ·) ∧ (∀ x, x ∈ d ↔ x ∈ pins.map Prod.fst) ∧ d.length = pins.length := by
  have key : ∀ l : List Int, l.Nodup → ∃ d : List Int, d.Pairwise (· < ·) ∧ d.Perm l := by
    intro l hl
    refine ⟨l.mergeSort (fun a b => decide (a ≤ b)), ?_, List.mergeSort_perm l _⟩
    have h1 := List.pairwise_mergeSort (le := fun a b : Int => decide (a ≤ b)) (fun a b c h1 h2 => by simp at *; omega) (fun a b => by simp; omega) l
    have h2 : (l.mergeSort (fun a b => decide (a ≤ b))).Nodup := (List.mergeSort_perm l _).nodup_iff.2 hl
    refine (h1.and h2).imp ?_
    intro a b hab
    have := hab.1
    have := hab.2
    simp at *
    omega
  obtain ⟨d, h1, h2⟩ := key _ h
  exact ⟨d, h1, fun x => h2.mem_iff, by have := h2.length_eq; simpa using this⟩
def AlPost (w : World) (e : Ending) (w' : World) : Prop := e = .returned (.bool true) ∧ Below w.heap.size w w'
set_option maxHeartbeats 4000000 in
set_option maxRecDepth 100000 in
theorem alike_any (w : World) (B Mp Mc Mn C Np Nc Nn : Nat) (cap : Int) (s t : Bs) (nw nv : List K) (h : BA w B Mp Mc Mn cap s.la s.fl s.pins s.all nw) (h2 : BA w C Np Nc Nn cap t.la t.fl t.pins t.all nv) (he : Eqv s t) :
    Calls Try.prog 29 #[ptr B, ptr C] w fun e w' => AlPost w e w' := by
  obtain ⟨S, hS⟩ : ∃ S, S = sortK nw := ⟨_, rfl⟩
  have hS2 : sortK nv = S := by rw [hS]; exact (keys_same h h2 he.al).symm
  obtain ⟨kn, hkn⟩ : ∃ kn, kn = S.length := ⟨_, rfl⟩
  have hkn2 : kn ≤ 65536 := by rw [hkn, hS]; exact Nat.le_trans (sortK_length nw) h.nwl
  obtain ⟨d, hd1, hd2, hdl⟩ := pins_rise s.pins h.pnd
  obtain ⟨dn, hdn⟩ : ∃ dn, dn = d.length := ⟨_, rfl⟩
  have hdn2 : dn ≤ 32 := by rw [hdn, hdl]; exact h.ps.1
  have hpe : pnl t.pins d = pnl s.pins d := by unfold pnl; refine List.map_congr_left (fun n _ => ?_); rw [he.pn]
  obtain ⟨PL, hPL⟩ : ∃ PL, PL = pnl s.pins d := ⟨_, rfl⟩
  have hPLn : dn = PL.length := by rw [hPL, hdn]; simp [pnl]
  have HK1 : Hid (∀ W, Below w.heap.size w W → Calls Try.prog 22 #[ptr B] W fun e w' => ∃ ka kc, e = .returned (.slice ka kn kc) ∧ KeysAt w' ka S ∧ Below W.heap.size W w') := fun W hW => tell_keys (h.kept hW) S hS.symm kn hkn
  have HK2 : Hid (∀ W, Below w.heap.size w W → Calls Try.prog 22 #[ptr C] W fun e w' => ∃ ka kc, e = .returned (.slice ka kn kc) ∧ KeysAt w' ka S ∧ Below W.heap.size W w') := fun W hW => tell_keys (h2.kept hW) S hS2 kn hkn
  have HP1 : Hid (∀ W, Below w.heap.size w W → Calls Try.prog 23 #[ptr B] W fun e w' => ∃ ka kc, e = .returned (.slice ka dn kc) ∧ KeysAt w' ka PL ∧ Below W.heap.size W w') := fun W hW => by rw [hPL]; exact tell_pins (h.kept hW) d hd1 hd2 dn hdn
  have HP2 : Hid (∀ W, Below w.heap.size w W → Calls Try.prog 23 #[ptr C] W fun e w' => ∃ ka kc, e = .returned (.slice ka dn kc) ∧ KeysAt w' ka PL ∧ Below W.heap.size W w') := fun W hW => by rw [hPL, ← hpe]; exact tell_pins (h2.kept hW) d hd1 (fun x => (hd2 x).trans (he.pmem x)) dn hdn
  have HC1 : Hid (∀ W, Below w.heap.size w W → Calls Try.prog 17 #[ptr B] W fun e w' => e = .returned (.int .i64 (s.all.length : Int)) ∧ w' = W) := fun W hW => charge_any W B Mp Mc Mn cap s.la s.fl s.pins s.all nw (h.kept hW)
  have HC2 : Hid (∀ W, Below w.heap.size w W → Calls Try.prog 17 #[ptr C] W fun e w' => e = .returned (.int .i64 (s.all.length : Int)) ∧ w' = W) := fun W hW => by rw [he.len]; exact charge_any W C Np Nc Nn cap t.la t.fl t.pins t.all nv (h2.kept hW)
  have HL1 : Hid (∀ W, Below w.heap.size w W → Calls Try.prog 18 #[ptr B] W fun e w' => e = .returned (.int .i64 s.la) ∧ w' = W) := fun W hW => latest_any W B Mp Mc Mn cap s.la s.fl s.pins s.all nw (h.kept hW)
  have HL2 : Hid (∀ W, Below w.heap.size w W → Calls Try.prog 18 #[ptr C] W fun e w' => e = .returned (.int .i64 s.la) ∧ w' = W) := fun W hW => by rw [he.la]; exact latest_any W C Np Nc Nn cap t.la t.fl t.pins t.all nv (h2.kept hW)
  have HF1 : Hid (∀ W, Below w.heap.size w W → Calls Try.prog 25 #[ptr B] W fun e w' => e = .returned (.int .i64 s.fl) ∧ w' = W) := fun W hW => floor_any W B Mp Mc Mn cap s.la s.fl s.pins s.all nw (h.kept hW)
  have HF2 : Hid (∀ W, Below w.heap.size w W → Calls Try.prog 25 #[ptr C] W fun e w' => e = .returned (.int .i64 s.fl) ∧ w' = W) := fun W hW => by rw [he.fl]; exact floor_any W C Np Nc Nn cap t.la t.fl t.pins t.all nv (h2.kept hW)
  have HZ1 : Hid (∀ W, Below w.heap.size w W → Calls Try.prog 26 #[ptr B] W fun e w' => e = .returned (.int .i64 cap) ∧ w' = W) := fun W hW => capacity_any W B Mp Mc Mn cap s.la s.fl s.pins s.all nw (h.kept hW)
  have HZ2 : Hid (∀ W, Below w.heap.size w W → Calls Try.prog 26 #[ptr C] W fun e w' => e = .returned (.int .i64 cap) ∧ w' = W) := fun W hW => capacity_any W C Np Nc Nn cap t.la t.fl t.pins t.all nv (h2.kept hW)
  have HV1 : Hid (∀ k ∈ S, ∀ W, Below w.heap.size w W → Calls Try.prog 24 #[ptr B, kv k] W fun e w' => ∃ ka kc, e = .returned (.slice ka (ofV k s.all).length kc) ∧ KeysAt w' ka (plk (ofV k s.all)) ∧ Below W.heap.size W w') := fun k hk W hW => tell_vers (h.kept hW) k (h.nkin k (by rw [← hS]; exact hk)) _ rfl _ rfl
  have HV2 : Hid (∀ k ∈ S, ∀ W, Below w.heap.size w W → Calls Try.prog 24 #[ptr C, kv k] W fun e w' => ∃ ka kc, e = .returned (.slice ka (ofV k s.all).length kc) ∧ KeysAt w' ka (plk (ofV k s.all)) ∧ Below W.heap.size W w') := fun k hk W hW => tell_vers (h2.kept hW) k (h.nkin k (by rw [← hS]; exact hk)) _ (he.al k).symm _ rfl
  have HVl : Hid (∀ k, (ofV k s.all).length = (plk (ofV k s.all)).length ∧ (ofV k s.all).length ≤ 65536) := fun k => by
    refine ⟨by simp [plk], ?_⟩
    have h1 : (ofV k s.all).length ≤ s.all.length := List.length_filter_le _ _
    have h3 := h.ln
    have h4 := h.cp
    omega
  have HN := hidC (And.intro hkn hPLn)
  generalize (s.all.length : Int) = al at *
  generalize s.la = la at *
  generalize s.fl = fl at *
  clear h h2 hS hS2 hkn hd1 hd2 hdl hdn hpe hPL hPLn
  go_enter Try.func29, Try.ntmps29
  go_wp2_with fail
  refine (HK1.out w (Below.refl _ _)).mono ?_
  rintro e X1 ⟨ka, kc, rfl, hka1, hb1⟩
  have HB1 := hidC hb1
  have HKa1 := hidC hka1
  clear hb1 hka1
  go_wp2_with fail
  refine (HK2.out X1 HB1.out).mono ?_
  rintro e X2 ⟨kb, kc2, rfl, hkb, hb2⟩
  have HB2 : Hid (Below w.heap.size w X2) := HB1.out.trans (hb2.mono HB1.out.size)
  have HKa2 : Hid (KeysAt X2 ka S) := HKa1.out.kept hb2
  have HKb := hidC hkb
  clear hb2 hkb HB1 HKa1
  go_wp2_with fail
  refine (sameKeys_eq X2 ka kb kn kc kc2 S HKa2.out HKb.out HN.out.1 (by omega)).mono ?_
  rintro e X3 ⟨rfl, q, hX3⟩
  have HB3 : Hid (Below w.heap.size w X3) := by rw [hX3]; exact HB2.out.trans ((drew_below X2 q).mono HB2.out.size)
  have HKa3 : Hid (KeysAt X3 ka S) := by rw [hX3]; exact HKa2.out.kept (drew_below X2 q)
  clear hX3 HKb HB2 HKa2
  go_wp2_with fail
  refine (HP1.out X3 HB3.out).mono ?_
  rintro e X4 ⟨pa, pc, rfl, hpa, hb4⟩
  have HB4 : Hid (Below w.heap.size w X4) := HB3.out.trans (hb4.mono HB3.out.size)
  have HKa4 : Hid (KeysAt X4 ka S) := HKa3.out.kept hb4
  have HPa4 := hidC hpa
  clear hpa hb4 HB3 HKa3
  go_wp2_with fail
  refine (HP2.out X4 HB4.out).mono ?_
  rintro e X5 ⟨pb, pc2, rfl, hpb, hb5⟩
  have HB5 : Hid (Below w.heap.size w X5) := HB4.out.trans (hb5.mono HB4.out.size)
  have HKa5 : Hid (KeysAt X5 ka S) := HKa4.out.kept hb5
  have HPa5 : Hid (KeysAt X5 pa PL) := HPa4.out.kept hb5
  have HPb5 := hidC hpb
  clear hpb hb5 HB4 HKa4 HPa4
  go_wp2_with fail
  refine (samePins_eq X5 pa pb dn pc pc2 PL HPa5.out HPb5.out HN.out.2 (by omega)).mono ?_
  rintro e X6 ⟨rfl, q, hX6⟩
  have HB6 : Hid (Below w.heap.size w X6) := by rw [hX6]; exact HB5.out.trans ((drew_below X5 q).mono HB5.out.size)
  have HKa6 : Hid (KeysAt X6 ka S) := by rw [hX6]; exact HKa5.out.kept (drew_below X5 q)
  clear hX6 HPb5 HPa5 HB5 HKa5
  go_wp2_with fail
  refine (HC1.out X6 HB6.out).mono ?_
  rintro e Y ⟨rfl, hY⟩
  have hY' := hY.symm
  subst hY'
  clear hY
  go_wp2_with fail
  refine (HC2.out X6 HB6.out).mono ?_
  rintro e Y ⟨rfl, hY⟩
  have hY' := hY.symm
  subst hY'
  clear hY
  go_wp2_with fail
  refine (HL1.out X6 HB6.out).mono ?_
  rintro e Y ⟨rfl, hY⟩
  have hY' := hY.symm
  subst hY'
  clear hY
  go_wp2_with fail
  refine (HL2.out X6 HB6.out).mono ?_
  rintro e Y ⟨rfl, hY⟩
  have hY' := hY.symm
  subst hY'
  clear hY
  go_wp2_with fail
  refine (HF1.out X6 HB6.out).mono ?_
  rintro e Y ⟨rfl, hY⟩
  have hY' := hY.symm
  subst hY'
  clear hY
  go_wp2_with fail
  refine (HF2.out X6 HB6.out).mono ?_
  rintro e Y ⟨rfl, hY⟩
  have hY' := hY.symm
  subst hY'
  clear hY
  go_wp2_with fail
  refine (HZ1.out X6 HB6.out).mono ?_
  rintro e Y ⟨rfl, hY⟩
  have hY' := hY.symm
  subst hY'
  clear hY
  go_wp2_with fail
  refine (HZ2.out X6 HB6.out).mono ?_
  rintro e Y ⟨rfl, hY⟩
  have hY' := hY.symm
  subst hY'
  clear hY HK1 HK2 HP1 HP2 HC1 HC2 HL1 HL2 HF1 HF2 HZ1 HZ2
  go_wp2_with fail
  go_loopw [6] (fun x wr => ∃ i : Nat, i ≤ kn ∧ x = .int .i64 (i : Int) ∧ Hid (Below X6.heap.size X6 wr)) (fun x _ => kn - (intOf x).toNat)
  case atStart => exact ⟨0, Nat.zero_le _, rfl, Below.refl _ _⟩
  case round =>
    obtain ⟨i, hi, rfl, HI⟩ := hrel
    have HBw : Hid (Below w.heap.size w wr) := HB6.out.trans (HI.out.mono HB6.out.size)
    by_cases hlt : i < kn
    · have hil : i < S.length := by have := HN.out.1; omega
      have hmem : kd S i ∈ S := kd_mem hil
      obtain ⟨b, off, hka, e0, e1⟩ := KeysAt.get2 (HKa6.out.kept HI.out) i hil
      subst hka
      have HW1 := hidC (HV1.out _ hmem)
      have HW2 := hidC (HV2.out _ hmem)
      have HWl := hidC (HVl.out (kd S i))
      have HKp : Hid (∀ W, Below wr.heap.size wr W → W.cell? ⟨b, off + i * 2, none⟩ = some (.int .i64 (kd S i).1) ∧ W.cell? ⟨b, off + i * 2 + 1, none⟩ = some (.int .i64 (kd S i).2)) := fun W hW => ⟨(hW.cell (p := ⟨b, off + i * 2, none⟩) (cell_lt e0)).trans e0, (hW.cell (p := ⟨b, off + i * 2 + 1, none⟩) (cell_lt e1)).trans e1⟩
      generalize kd S i = kk at *
      obtain ⟨k1, k2⟩ := kk
      obtain ⟨vn, hvn⟩ : ∃ vn, vn = (ofV (k1, k2) s.all).length := ⟨_, rfl⟩
      rw [← hvn] at HW1 HW2 HWl
      generalize plk (ofV (k1, k2) s.all) = VL at *
      simp only at e0 e1 HKp
      have HBd : Hid (∀ W, Below wr.heap.size wr W → Below w.heap.size w W) := fun W hW => HBw.out.trans (hW.mono HBw.out.size)
      have HWd : Hid (Below wr.heap.size wr wr.drew) := drew_below wr 1
      have HDq : Hid (∀ Y2 Y3 q3, Below wr.heap.size wr Y2 → Y3 = Y2.drewN q3 → Below wr.heap.size wr Y3) := fun Y2 Y3 q3 h1 h2 => by rw [h2]; exact h1.trans ((drew_below Y2 q3).mono h1.size)
      simp only [kv] at HW1 HW2
      clear hmem hvn
      go_upto_region 7 with fail
      go_region_held3 (fun w' => w'.cell? ⟨b, off + i * 2, none⟩ = some (.int .i64 k1) ∧ w'.cell? ⟨b, off + i * 2 + 1, none⟩ = some (.int .i64 k2)) (first | with_reducible exact HKp.out _ HQ3.out | with_reducible exact HKp.out _ HQ2.out | with_reducible exact HKp.out _ HQ1.out | go_keep) (first
        | (go_at_call 24; with_reducible refine (HW1.out wr.drew (HBd.out _ HWd.out)).mono ?_; rintro e Y1 ⟨va, vc, rfl, hva, hb1⟩; have HQ1 := hidC (HWd.out.trans (hb1.mono HWd.out.size)); have HVa := hidC hva; clear hva hb1)
        | (go_at_call 24; with_reducible refine (HW2.out Y1 (HBd.out _ HQ1.out)).mono ?_; rintro e Y2 ⟨vb, vc2, rfl, hvb, hb2⟩; have HQ2 := hidC (HQ1.out.trans (hb2.mono HQ1.out.size)); have HVb := hidC hvb; have HVa2 := hidC (HVa.out.kept hb2); clear hvb hb2)
        | (go_at_call 52; with_reducible refine (samePlaces_eq Y2 va vb vn vc vc2 VL HVa2.out HVb.out HWl.out.1 (Nat.le_trans HWl.out.2 (by omega))).mono ?_; rintro e Y3 ⟨rfl, q3, hY3⟩; have HQ3 := hidC (HDq.out _ _ _ HQ2.out hY3); clear hY3))
      all_goals (
        have HB8 : Hid (Below X6.heap.size X6 Y3) := HI.out.trans (HQ3.out.mono HI.out.size)
        clear HQ1 HQ2 HQ3 HVa HVb HVa2
        go_wp2
        exact ⟨⟨i + 1, by omega, by go_num, HB8.out⟩, by simp [intOf]; omega⟩)
    · have HX : Hid (AlPost w (.returned (.bool true)) wr) := ⟨rfl, HBw.out⟩
      go_wp2
      go_ret
      exact HX.out
end Go.Proofs.Ytibdogniiglcjab
/-
  pinned; TWO BOOKS SIDE BY SIDE.
-/
namespace Go.Proofs.Ytibdogniiglcjab
open Go.RowKit Go.Sort

theorem pnl_kd {pins : List (Int × Int)} {d : List Int} {i : Nat} (h : i < d.length) : kd (pnl pins d) i = (d[i], (fpn pins d[i]).getD 0) := by
  unfold kd pnl
  simp [List.getD_eq_getElem?_getD, h]
set_option maxHeartbeats 1000000 in
set_option maxRecDepth 100000 in
theorem isPinned_any (w : World) (B Mp Mc Mn : Nat) (cap la fl : Int) (pins : List (Int × Int)) (all : List V4) (nw : List K) (h : BA w B Mp Mc Mn cap la fl pins all nw) (n : Int) :
    Calls Try.prog 30 #[ptr B, .int .i64 n] w fun e w' => e = .returned (.bool (decide (n ∈ pins.map Prod.fst))) ∧ Below w.heap.size w w' := by
  obtain ⟨d, hd1, hd2, hdl⟩ := pins_rise pins h.pnd
  obtain ⟨dn, hdn⟩ : ∃ dn, dn = d.length := ⟨_, rfl⟩
  have hdn2 : dn ≤ 32 := by rw [hdn, hdl]; exact h.ps.1
  have HP := hidC (tell_pins h d hd1 hd2 dn hdn)
  have HD := hidC (And.intro hd2 hdn)
  obtain ⟨mb, hmb⟩ : ∃ mb, mb = decide (n ∈ pins.map Prod.fst) := ⟨_, rfl⟩
  have HM := hidC hmb
  rw [← hmb]
  clear h hd1 hd2 hdl hdn hmb
  go_enter Try.func30, Try.ntmps30
  go_wp2_with fail
  refine HP.out.mono ?_
  rintro e W1 ⟨pa, pc, rfl, hpa, hb1⟩
  have HB1 := hidC hb1
  have HPa := hidC hpa
  clear HP hpa hb1
  go_wp2_with fail
  go_loopw [6] (fun x wr => ∃ k : Nat, k ≤ dn ∧ x = .int .i64 (k : Int) ∧ wr = W1 ∧ Hid (n ∉ d.take k)) (fun x _ => dn - (intOf x).toNat)
  case atStart => exact ⟨0, Nat.zero_le _, rfl, rfl, by simp [Hid]⟩
  case round =>
    obtain ⟨k, hk, rfl, hwr, HI⟩ := hrel
    subst hwr
    by_cases hlt : k < dn
    · have hkd : k < d.length := by have := HD.out.2; omega
      obtain ⟨b, off, hao, e0, _⟩ := KeysAt.get2 HPa.out k (by simp [pnl]; exact hkd)
      subst hao
      rw [pnl_kd hkd] at e0
      simp only at e0
      by_cases he : d[k] = n
      · have HX : Hid (mb = true) := by
          show mb = true
          rw [HM.out]
          exact decide_eq_true ((HD.out.1 n).1 (by rw [← he]; exact List.getElem_mem hkd))
        have heb : (d[k] == n) = true := by simpa using he
        generalize d[k] = x at *
        go_wp2
        go_ret
        exact ⟨by rw [HX.out]; rfl, HB1.out⟩
      · have HX : Hid (n ∉ d.take (k + 1)) := by
          show n ∉ d.take (k + 1)
          rw [List.take_succ_eq_append_getElem hkd, List.mem_append, List.mem_singleton]
          exact fun h => h.elim HI.out (fun h => he h.symm)
        have heb : (d[k] == n) = false := by simpa using he
        generalize d[k] = x at *
        go_wp2
        exact ⟨⟨k + 1, by omega, by go_num, by first | rfl | trivial, HX.out⟩, by simp [intOf]; omega⟩
    · have HX : Hid (mb = false) := by
        show mb = false
        rw [HM.out]
        refine decide_eq_false (fun h => ?_)
        have h1 := (HD.out.1 n).2 h
        have h2 := HI.out
        rw [show k = dn by omega, HD.out.2, List.take_length] at h2
        exact h2 h1
      go_wp2
      go_ret
      exact ⟨by rw [HX.out]; rfl, HB1.out⟩
theorem BA.notC {w : World} {B Mp Mc Mn : Nat} {cap la fl : Int} {pins : List (Int × Int)} {all : List V4} {nw : List K} (h : BA w B Mp Mc Mn cap la fl pins all nw) {x : Nat} {cs : Array Value} {T : TypeId} {z : Nat × Nat} (hx : w.heap[x]? = some (.cells cs T z)) (hT : T ≠ 81) : ¬ SB B Mp Mc Mn x := by
  rintro (rfl | rfl | rfl | rfl)
  · rw [h.bk] at hx
    simp only [Option.some.injEq, Obj.cells.injEq] at hx
    exact hT hx.2.1.symm
  · obtain ⟨ms, c, h1, _⟩ := h.mp.ex
    rw [h1] at hx
    cases hx
  · obtain ⟨ms, c, h1, _⟩ := h.mc.ex
    rw [h1] at hx
    cases hx
  · obtain ⟨ms, c, h1, _⟩ := h.mn.ex
    rw [h1] at hx
    cases hx
/-- what parts two books, and the pairs that name them -/
structure Apt (n0 P Q B Mp Mc Mn C Np Nc Nn : Nat) : Prop where
  ap : ∀ k, SB B Mp Mc Mn k → ¬ SB C Np Nc Nn k
  p1 : ¬ SB B Mp Mc Mn P
  p2 : ¬ SB C Np Nc Nn P
  q1 : ¬ SB B Mp Mc Mn Q
  q2 : ¬ SB C Np Nc Nn Q
  s1 : ∀ k, SB B Mp Mc Mn k → n0 ≤ k
  s2 : ∀ k, SB C Np Nc Nn k → n0 ≤ k
structure RefI (w : World) (P Q B Mp Mc Mn C Np Nc Nn : Nat) (cap : Int) (s t : Bs) (wr : World) : Prop where
  b1 : ∃ nw, BA wr B Mp Mc Mn cap s.la s.fl s.pins s.all nw
  b2 : ∃ nv, BA wr C Np Nc Nn cap t.la t.fl t.pins t.all nv
  cp : wr.cell? ⟨P, 0, none⟩ = some (ptr B)
  cq : wr.cell? ⟨Q, 0, none⟩ = some (ptr C)
  bw : Below w.heap.size w wr
section
variable {w : World} {P Q B Mp Mc Mn C Np Nc Nn : Nat} {cap : Int} {s t : Bs} {wr wr' : World}
theorem RefI.kept (h : RefI w P Q B Mp Mc Mn C Np Nc Nn cap s t wr) (hb : Below wr.heap.size wr wr') : RefI w P Q B Mp Mc Mn C Np Nc Nn cap s t wr' := by
  obtain ⟨nw, h1⟩ := h.b1
  obtain ⟨nv, h2⟩ := h.b2
  exact ⟨⟨nw, h1.kept hb⟩, ⟨nv, h2.kept hb⟩, (hb.cell (p := ⟨P, 0, none⟩) (cell_lt h.cp)).trans h.cp, (hb.cell (p := ⟨Q, 0, none⟩) (cell_lt h.cq)).trans h.cq, h.bw.trans (hb.mono h.bw.size)⟩
theorem Fr.cell {S : Nat → Prop} {a b : World} (h : Fr S a b) {p : Addr} {v : Value} (hc : a.cell? p = some v) (hS : ¬ S p.block) : b.cell? p = some v := by
  rw [World.cell?_of_block (w := a) (h.block p.block (cell_lt hc) hS)]
  exact hc
theorem RefI.do1 (h : RefI w P Q B Mp Mc Mn C Np Nc Nn cap s t wr) (ha : Apt w.heap.size P Q B Mp Mc Mn C Np Nc Nn) {o : Oc} {e : Ending} (hd : DoPost wr B Mp Mc Mn cap o s e wr') : ∃ r s', e = .returned (.bool r) ∧ DoR cap o s s' r ∧ RefI w P Q B Mp Mc Mn C Np Nc Nn cap s' t wr' ∧ Fr (SB B Mp Mc Mn) wr wr' := by
  obtain ⟨r, s', nw', h1, h2, h3, h4⟩ := hd
  obtain ⟨nv, h5⟩ := h.b2
  exact ⟨r, s', h1, h2, ⟨⟨nw', h3⟩, ⟨nv, h5.same (fun k hk => h4.block k (h5.lt hk) (fun hs => ha.ap k hs hk))⟩, h4.cell h.cp ha.p1, h4.cell h.cq ha.q1, h.bw.trans (h4.below h.bw.size ha.s1)⟩, h4⟩
theorem RefI.do2 (h : RefI w P Q B Mp Mc Mn C Np Nc Nn cap s t wr) (ha : Apt w.heap.size P Q B Mp Mc Mn C Np Nc Nn) {o : Oc} {e : Ending} (hd : DoPost wr C Np Nc Nn cap o t e wr') : ∃ r t', e = .returned (.bool r) ∧ DoR cap o t t' r ∧ RefI w P Q B Mp Mc Mn C Np Nc Nn cap s t' wr' ∧ Fr (SB C Np Nc Nn) wr wr' := by
  obtain ⟨r, t', nv', h1, h2, h3, h4⟩ := hd
  obtain ⟨nw, h5⟩ := h.b1
  exact ⟨r, t', h1, h2, ⟨⟨nw, h5.same (fun k hk => h4.block k (h5.lt hk) (fun hs => ha.ap k hk hs))⟩, ⟨nv', h3⟩, h4.cell h.cp ha.p2, h4.cell h.cq ha.q2, h.bw.trans (h4.below h.bw.size ha.s2)⟩, h4⟩
end
/-- two that are made alike -/
theorem ref_start {w X4 X5 X6 : World} {cap : Int} {rs : Bool} {s : Sn} {e1 e2 : Ending} (hb : Below w.heap.size w X4) (h1 : MadePost X4 cap rs s e1 X5) (h2 : MadePost X5 cap rs s e2 X6) :
    ∃ P Q, e1 = .returned (.tuple #[ptr P, .bool true]) ∧ e2 = .returned (.tuple #[ptr Q, .bool true]) ∧ Below w.heap.size w X6 ∧
      ((X6.cell? ⟨P, 0, none⟩ = some (.pointer none) ∧ X6.cell? ⟨Q, 0, none⟩ = some (.pointer none)) ∨
       (∃ B Mp Mc Mn C Np Nc Nn st, Apt w.heap.size P Q B Mp Mc Mn C Np Nc Nn ∧ RefI w P Q B Mp Mc Mn C Np Nc Nn cap st st X6)) := by
  obtain ⟨P, bv, rv, rfl, hP, hPl, hb5, h1⟩ := h1
  obtain ⟨Q, bv2, rv2, rfl, hQ, hQl, hb6, h2⟩ := h2
  have hP6 : X6.heap[P]? = _ := (hb6.block P (blk_lt hP)).trans hP
  have hbw5 : Below w.heap.size w X5 := hb.trans (hb5.mono hb.size)
  have hbw6 : Below w.heap.size w X6 := hbw5.trans (hb6.mono hbw5.size)
  refine ⟨P, Q, rfl, rfl, hbw6, ?_⟩
  rcases h1 with ⟨hne, rfl, _⟩ | ⟨he, B, Mp, Mc, Mn, nw, R, av, pvv, rfl, _, hba, hsb, _⟩
  · rcases h2 with ⟨_, rfl, _⟩ | ⟨he, _⟩
    · exact .inl ⟨by simp [World.cell?, hP6], by simp [World.cell?, hQ]⟩
    · exact absurd he hne
  · rcases h2 with ⟨hne, _⟩ | ⟨_, C, Np, Nc, Nn, nv, R2, av2, pv2, rfl, _, hbc, hsc, _⟩
    · exact absurd he hne
    · have hlt : ∀ k, SB B Mp Mc Mn k → k < X5.heap.size := fun k hk => hba.lt hk
      refine .inr ⟨B, Mp, Mc, Mn, C, Np, Nc, Nn, ⟨mdL rs s, mdL rs s, mdP rs s, mdA rs s⟩, ⟨fun k h1 h2 => ?_, ?_, fun h => ?_, fun h => ?_, ?_, fun k hk => ?_, fun k hk => ?_⟩, ⟨⟨nw, hba.kept hb6⟩, ⟨nv, hbc⟩, by simp [World.cell?, hP6], by simp [World.cell?, hQ], hbw6⟩⟩
      · have := hlt k h1; have := hsc k h2; omega
      · exact hba.notC hP (by decide)
      · have := hsc P h; have := blk_lt hP; omega
      · have := hlt Q h; omega
      · exact hbc.notC hQ (by decide)
      · have := hsb k hk; have := hb.size; omega
      · have := hsc k hk; have := hbw5.size; omega
/-- may a batch be pinned? -/
def mayB (s : Bs) (m : Int) : Bool := decide (0 ≤ m) && (decide (m ≤ s.la) && ((decide (m ∈ s.pins.map Prod.fst) || decide (s.fl ≤ m)) && !(if m ∈ s.pins.map Prod.fst then decide ((fpn s.pins m).getD 0 = 1099511627776) else decide (s.pins.length = 32))))
theorem may_pin (s : Bs) (m : Int) : pinE s.la s.fl s.pins m ≠ 0 ↔ mayB s m = false := by
  unfold pinE mayB
  by_cases h0 : m < 0
  · rw [if_pos (.inl h0), decide_eq_false (by omega : ¬ 0 ≤ m)]
    simp
  by_cases h1 : s.la < m
  · rw [if_pos (.inr h1), decide_eq_false (by omega : ¬ m ≤ s.la)]
    simp
  rw [if_neg (by omega), decide_eq_true (by omega : 0 ≤ m), decide_eq_true (by omega : m ≤ s.la)]
  cases hf : fpn s.pins m with
  | none =>
    have hm : m ∉ s.pins.map Prod.fst := by rw [fpn_mem, hf]; simp
    rw [if_neg hm, decide_eq_false hm]
    by_cases h2 : m < s.fl
    · rw [decide_eq_false (by omega : ¬ s.fl ≤ m)]
      simp [h2]
    · rw [decide_eq_true (by omega : s.fl ≤ m)]
      by_cases h3 : s.pins.length = 32 <;> simp [h2, h3]
  | some c =>
    have hm : m ∈ s.pins.map Prod.fst := by rw [fpn_mem, hf]; rfl
    rw [if_pos hm, decide_eq_true hm]
    by_cases h3 : c = 1099511627776 <;> simp [h3]
theorem may_do {cap : Int} {o : Oc} {s s' : Bs} {r : Bool} (h : DoR cap o s s' r) : (o.kind = 1 → (r == mayB s o.m) = false) ∧ (o.kind = 2 → (r == decide (o.m ∈ s.pins.map Prod.fst)) = false) := by
  constructor
  · intro hk
    have h1 := (h.pin hk).trans (may_pin s o.m)
    cases r <;> cases hm : mayB s o.m <;> simp_all
  · intro hk
    have h1 := h.unp hk
    by_cases hm : o.m ∈ s.pins.map Prod.fst
    · rw [decide_eq_true hm]
      cases r with
      | true => exact absurd hm (h1.1 rfl)
      | false => rfl
    · rw [decide_eq_false hm]
      cases r with
      | true => rfl
      | false => exact absurd (h1.2 hm) (by simp)
end Go.Proofs.Ytibdogniiglcjab
/-
  newest: WHAT A BATCH SEES OF A KEY; THE MATHEMATICS.
-/
namespace Go.Proofs.Ytibdogniiglcjab
open Go.RowKit Go.Sort

/-- the newest one that is not above b -/
def nwL (L : List K) (b : Int) : K × Bool := L.foldl (fun a x => if x.1 ≤ b then (x, true) else a) ((0, 0), false)
theorem nwL_snoc (L : List K) (x : K) (b : Int) : nwL (L ++ [x]) b = if x.1 ≤ b then (x, true) else nwL L b := by
  unfold nwL
  rw [List.foldl_append]
  rfl
/-- .. the list turned round -/
def nwR : List K → Int → K × Bool
  | [], _ => ((0, 0), false)
  | x :: l, b => if x.1 ≤ b then (x, true) else nwR l b
theorem nwL_rev (b : Int) : ∀ L : List K, nwL L.reverse b = nwR L b
  | [] => rfl
  | x :: L => by rw [List.reverse_cons, nwL_snoc, nwL_rev b L]; rfl
theorem nwR_skip {A C : List K} {b : Int} (h : ∀ x ∈ A, b < x.1) : nwR (A ++ C) b = nwR C b := by
  induction A with
  | nil => rfl
  | cons x A ih =>
    have h1 := h x (by simp)
    simp only [List.cons_append, nwR]
    rw [if_neg (by omega), ih (fun y hy => h y (by simp [hy]))]
/-- what a pinned batch sees is kept -/
theorem keepR_see {d : List Int} {k : K} {b : Int} (hb : b ∈ d) : ∀ (l : List V4) (nb : Int), (∀ v ∈ l, v.1 = k) → b < nb → nwR ((keepR d k l nb).map Prod.snd) b = nwR (l.map Prod.snd) b
  | [], _, _, _ => rfl
  | v :: l, nb, h, hn => by
    have hv := h v (by simp)
    have hl : ∀ u ∈ l, u.1 = k := fun u hu => h u (by simp [hu])
    simp only [keepR, if_pos hv]
    by_cases h1 : v.2.1 ≤ b
    · have hs : seenN d v.2.1 nb = true := by
        unfold seenN
        rw [List.any_eq_true]
        exact ⟨b, hb, by simp; omega⟩
      rw [if_pos hs]
      simp only [List.map_cons, nwR, if_pos h1]
    · split
      · simp only [List.map_cons, nwR, if_neg h1]
        exact keepR_see hb l _ hl (by omega)
      · rw [keepR_see hb l nb hl hn]
        simp only [List.map_cons, nwR, if_neg h1]
theorem kpt_see {d : List Int} {k : K} {b : Int} {l : List V4} (h : ∀ v ∈ l, v.1 = k) (hb : b ∈ d ∨ ∀ v ∈ l, v.2.1 ≤ b) : nwL (plk (kpt d l)) b = nwL (plk l) b := by
  have e1 : ∀ L : List V4, nwL (plk L) b = nwR (L.reverse.map Prod.snd) b := fun L => by
    rw [← nwL_rev]
    congr 1
    simp [plk]
  rw [e1, e1]
  unfold kpt
  cases e : l.reverse with
  | nil => simp
  | cons u r =>
    have hu : u ∈ l := by have : u ∈ l.reverse := by rw [e]; simp
                          simpa using this
    have hr : ∀ v ∈ r, v.1 = u.1 := fun v hv => by
      have h1 : v ∈ l.reverse := by rw [e]; simp [hv]
      rw [h v (by simpa using h1), h u hu]
    simp only [List.reverse_append, List.reverse_cons, List.reverse_nil, List.nil_append, List.reverse_reverse, List.singleton_append, List.map_cons, nwR]
    by_cases h1 : u.2.1 ≤ b
    · rw [if_pos h1, if_pos h1]
    · rw [if_neg h1, if_neg h1]
      rcases hb with hb | hb
      · exact keepR_see hb r _ hr (by omega)
      · exact absurd (hb u hu) h1
/-- what a batch sees -/
def see (all : List V4) (k : K) (b : Int) : K × Bool := nwL (plk (ofV k all)) b
theorem ofV_key {k : K} {l : List V4} : ∀ v ∈ ofV k l, v.1 = k := fun v hv => by
  have := (List.mem_filter.1 hv).2
  simpa using this
theorem newFrom_at (n : Int) : ∀ (L : List (List K)) (i : Int), ∀ v ∈ newFrom n i L, v.2.1 = n
  | [], _, v, h => by simp [newFrom] at h
  | s :: L, i, v, h => by
    simp only [newFrom, List.mem_append] at h
    rcases h with h | h
    · obtain ⟨x, _, rfl⟩ := List.mem_map.1 h
      rfl
    · exact newFrom_at n L _ v h
structure Sg where
  b : Int
  k : K
  p : K
  s : Bool
def SgOK (st : Bs) (x : Sg) : Prop := (x.b ∈ st.pins.map Prod.fst ∨ x.b = st.la) ∧ KIn x.k ∧ (x.p, x.s) = see st.all x.k x.b
/-- one call takes nothing from it -/
theorem SgOK.after {st s' : Bs} {x : Sg} {cap : Int} {o : Oc} {r : Bool} (h : SgOK st x) (hp : ∀ p ∈ st.pins, p.1 ≤ st.la) (ha : ∀ v ∈ st.all, v.2.1 ≤ st.la) (hd : DoR cap o st s' r) : (x.p, x.s) = see s'.all x.k x.b := by
  obtain ⟨h1, _, h2⟩ := h
  have hle : x.b ≤ st.la := by
    rcases h1 with h1 | h1
    · obtain ⟨p, hp1, e⟩ := List.mem_map.1 h1
      rw [← e]
      exact hp p hp1
    · omega
  rw [h2]
  cases hd with
  | admNo _ _ => rfl
  | admYes _ _ =>
    show see st.all x.k x.b = see (st.all ++ newFrom (st.la + 1) 0 o.L) x.k x.b
    unfold see
    rw [ofV_append']
    have e1 : ∀ L : List K, nwL L x.b = nwR L.reverse x.b := fun L => by rw [← nwL_rev, List.reverse_reverse]
    rw [e1, e1]
    have e2 : (plk (ofV x.k st.all ++ ofV x.k (newFrom (st.la + 1) 0 o.L))).reverse = (plk (ofV x.k (newFrom (st.la + 1) 0 o.L))).reverse ++ (plk (ofV x.k st.all)).reverse := by simp [plk]
    rw [e2, nwR_skip]
    intro y hy
    obtain ⟨v, hv, rfl⟩ := List.mem_map.1 (List.mem_reverse.1 hy)
    have := newFrom_at _ _ _ v (List.mem_filter.1 hv).1
    omega
  | pinNo _ _ => rfl
  | pinYes _ _ _ _ => rfl
  | unpNo _ _ => rfl
  | unpYes _ _ _ _ => rfl
  | coll d a' _ _ hd2 hc =>
    show see st.all x.k x.b = see a' x.k x.b
    unfold see
    rw [hc.2]
    refine (kpt_see ofV_key ?_).symm
    rcases h1 with h1 | h1
    · exact .inl (hd2.mem_iff.2 h1)
    · exact .inr (fun v hv => by rw [h1]; exact ha v (List.mem_filter.1 hv).1)
  | oth _ _ _ _ => rfl
def NwPost (w : World) (L : List K) (b : Int) (e : Ending) (w' : World) : Prop := e = .returned (.tuple #[.agg #[.int .i64 (nwL L b).1.1, .int .i64 (nwL L b).1.2], .bool (nwL L b).2]) ∧ Below w.heap.size w w'
set_option maxHeartbeats 2000000 in
set_option maxRecDepth 100000 in
theorem newestL_any (w : World) (va : Option Addr) (n c : Nat) (L : List K) (b : Int) (h : KeysAt w va L) (hn : n = L.length) (hm : n ≤ 1000000) :
    Calls Try.prog 43 #[.slice va n c, .int .i64 b] w fun e w' => NwPost w L b e w' := by
  obtain ⟨W1, hW1⟩ : ∃ W1, W1 = (w.alloc (.cells #[.int .i64 0, .int .i64 0] 86)).alloc (.cells #[.int .i64 0, .int .i64 0] 86) := ⟨_, rfl⟩
  obtain ⟨rb, hrb⟩ : ∃ rb, rb = w.heap.size := ⟨_, rfl⟩
  obtain ⟨pb, hpb⟩ : ∃ pb, pb = w.heap.size + 1 := ⟨_, rfl⟩
  have HB1 : Hid (PB W1 rb (0, 0) ∧ PB W1 pb (0, 0) ∧ Below w.heap.size w W1) := by
    rw [hW1, hrb, hpb]
    refine ⟨(heap_alloc_old _ _ (by simp)).trans (heap_alloc_new _ _ rfl), heap_alloc_new _ _ (by simp), ?_⟩
    exact ((Below.refl _ _).alloc (Nat.le_refl _) _).alloc (by simp) _
  have HRP : Hid (w.heap.size ≤ rb ∧ w.heap.size ≤ pb ∧ rb ≠ pb) := ⟨by omega, by omega, by omega⟩
  have HK : Hid (∀ W, Below w.heap.size w W → KeysAt W va L) := fun W hW => h.kept hW
  have HN := hidC hn
  clear h hn
  go_enter Try.func43, Try.ntmps43
  go_wp2_with fail
  rw [← hW1, ← hpb, ← hrb]
  clear hW1 hpb hrb
  go_loopw [7, 8] (fun x y wr => ∃ (i : Nat) (q1 q2 : Int) (ok : Bool), i ≤ n ∧ x = .bool ok ∧ y = .int .i64 (i : Int) ∧ Hid (nwL (L.take i) b = ((q1, q2), ok) ∧ PB wr rb (0, 0) ∧ PB wr pb (q1, q2) ∧ Below w.heap.size w wr)) (fun _ y _ => n - (intOf y).toNat)
  case atStart => exact ⟨0, 0, 0, false, Nat.zero_le _, rfl, rfl, rfl, HB1.out⟩
  case round =>
    clear HB1
    obtain ⟨i, q1, q2, ok, hi, rfl, rfl, HI⟩ := hrel
    by_cases hlt : i < n
    · have hil : i < L.length := by have := HN.out; omega
      obtain ⟨vb, off, hao, e0, e1⟩ := KeysAt.get2 (HK.out wr HI.out.2.2.2) i hil
      subst hao
      have hkd : kd L i = L[i] := by have := kd_get hil; rw [List.getElem?_eq_getElem hil] at this; exact (Option.some.inj this).symm
      rw [hkd] at e0 e1
      have HT : Hid (L.take (i + 1) = L.take i ++ [L[i]]) := List.take_succ_eq_append_getElem hil
      generalize L[i] = x at *
      obtain ⟨x1, x2⟩ := x
      simp only at e0 e1
      by_cases hx : x1 ≤ b
      · have hxb : decide (x1 ≤ b) = true := decide_eq_true hx
        obtain ⟨c0, c1⟩ := HI.out.2.2.1.cells
        have f0 := HI.out.2.2.1.frozen 0
        have f1 := HI.out.2.2.1.frozen 1
        simp only at c0 c1
        have HX : Hid (nwL (L.take (i + 1)) b = ((x1, x2), true) ∧ PB (s2 wr pb (x1, x2)) rb (0, 0) ∧ PB (s2 wr pb (x1, x2)) pb (x1, x2) ∧ Below w.heap.size w (s2 wr pb (x1, x2))) := by
          refine ⟨by rw [HT.out, nwL_snoc, if_pos hx], (s2_other wr pb (x1, x2) HRP.out.2.2).trans HI.out.2.1, HI.out.2.2.1.two (x1, x2), ?_⟩
          exact (HI.out.2.2.2.setCell (p := ⟨pb, 0, none⟩) HRP.out.2.1 _).setCell (p := ⟨pb, 1, none⟩) HRP.out.2.1 _
        clear HI HT hkd
        go_wp2
        exact ⟨⟨i + 1, x1, x2, true, by omega, rfl, by go_num, HX.out⟩, by simp [intOf]; omega⟩
      · have hxb : decide (x1 ≤ b) = false := decide_eq_false hx
        have HX : Hid (nwL (L.take (i + 1)) b = ((q1, q2), ok) ∧ PB wr rb (0, 0) ∧ PB wr pb (q1, q2) ∧ Below w.heap.size w wr) := ⟨by rw [HT.out, nwL_snoc, if_neg hx]; exact HI.out.1, HI.out.2⟩
        clear HI HT hkd
        go_wp2
        exact ⟨⟨i + 1, q1, q2, ok, by omega, rfl, by go_num, HX.out⟩, by simp [intOf]; omega⟩
    · obtain ⟨c0, c1⟩ := HI.out.2.2.1.cells
      obtain ⟨d0, d1⟩ := HI.out.2.1.cells
      have f0 := HI.out.2.1.frozen 0
      have f1 := HI.out.2.1.frozen 1
      simp only at c0 c1 d0 d1
      obtain ⟨F, hF⟩ : ∃ F, F = (wr.setCell ⟨rb, 0, none⟩ (.int .i64 q1)).setCell ⟨rb, 1, none⟩ (.int .i64 q2) := ⟨_, rfl⟩
      have HX : Hid (NwPost w L b (.returned (.tuple #[.agg #[.int .i64 q1, .int .i64 q2], .bool ok])) F ∧ PB F rb (q1, q2)) := by
        have h1 := HI.out.1
        rw [show i = n by omega, HN.out, List.take_length] at h1
        refine ⟨⟨by rw [h1], ?_⟩, by rw [hF]; exact HI.out.2.1.two (q1, q2)⟩
        rw [hF]
        exact (HI.out.2.2.2.setCell (p := ⟨rb, 0, none⟩) HRP.out.1 _).setCell (p := ⟨rb, 1, none⟩) HRP.out.1 _
      clear HI
      go_wp2
      rw [← hF]
      clear hF
      obtain ⟨z0, z1⟩ := HX.out.2.cells
      simp only at z0 z1
      refine bodyPost_ret (v := .tuple #[.agg #[.int .i64 q1, .int .i64 q2], .bool ok]) ?_ rfl HX.out.1
      simp [results, Try.f43, go_sem, z0, z1]
end Go.Proofs.Ytibdogniiglcjab
/-
  sights: WHAT ALL PINNED BATCHES, AND THE LATEST ONE, SEE OF ALL KEYS.
-/
namespace Go.Proofs.Ytibdogniiglcjab
open Go.RowKit Go.Sort

def sgs : List Sg → List Value
  | [] => []
  | x :: l => .int .i64 x.b :: .int .i64 x.k.1 :: .int .i64 x.k.2 :: .int .i64 x.p.1 :: .int .i64 x.p.2 :: .bool x.s :: sgs l
theorem sgs_append : ∀ A C : List Sg, sgs (A ++ C) = sgs A ++ sgs C
  | [], _ => rfl
  | x :: A, C => by simp only [List.cons_append, sgs, sgs_append A C]
theorem sgs_length : ∀ l : List Sg, (sgs l).length = l.length * 6
  | [] => rfl
  | x :: l => by simp only [sgs, List.length_cons, sgs_length l]; omega
theorem sgs_at : ∀ (l : List Sg) (j : Nat) (h : j < l.length), (sgs l)[j * 6]? = some (.int .i64 l[j].b) ∧ (sgs l)[j * 6 + 1]? = some (.int .i64 l[j].k.1) ∧ (sgs l)[j * 6 + 2]? = some (.int .i64 l[j].k.2) ∧ (sgs l)[j * 6 + 3]? = some (.int .i64 l[j].p.1) ∧ (sgs l)[j * 6 + 4]? = some (.int .i64 l[j].p.2) ∧ (sgs l)[j * 6 + 5]? = some (.bool l[j].s)
  | [], j, h => by simp at h
  | x :: l, 0, _ => by simp [sgs]
  | x :: l, j + 1, h => by
    have := sgs_at l j (by simp at h; omega)
    rw [show (j + 1) * 6 = j * 6 + 1 + 1 + 1 + 1 + 1 + 1 by omega]
    simpa [sgs] using this
theorem akSg : AKd 56 98 6 48 (.agg #[.int .i64 0, .int .i64 0, .int .i64 0, .int .i64 0, .int .i64 0, .bool false]) := ⟨Try.underlying56, by kernel_rfl, rfl, by omega⟩
def SgR (n0 : Nat) (W : World) (v : Value) (X : List Sg) : Prop := W.ownsRow n0 98 6 v X.length (sgs X)
theorem row_base {w : World} {base base' : Nat} {T : TypeId} {sz n : Nat} {v : Value} {xs : List Value} (h : w.ownsRow base T sz v n xs) (hb : base' ≤ base) : w.ownsRow base' T sz v n xs := by
  obtain ⟨hl, h⟩ := h
  refine ⟨hl, ?_⟩
  rcases h with h | ⟨g, cap, cur, rfl, hg, r⟩
  · exact .inl h
  · exact .inr ⟨g, cap, cur, rfl, Nat.le_trans hb hg, r⟩
/-- one more -/
theorem sg_app {n0 : Nat} {U : World} {v : Value} {X : List Sg} (h : SgR n0 U v X) (hl : X.length ≤ 3000000) (hn : n0 ≤ U.heap.size) (x : Sg) (ty : TypeId) :
    ∃ v' w', (Builtin.append_ #[56, 56] ty #[v, .slice (some ⟨U.heap.size, 0, none⟩) 1 1]).run Try.prog (U.drew.alloc (.cells #[.int .i64 x.b, .int .i64 x.k.1, .int .i64 x.k.2, .int .i64 x.p.1, .int .i64 x.p.2, .bool x.s] 98)) = .ok v' w' ∧
      SgR n0 w' v' (X ++ [x]) ∧ Below n0 U w' ∧ ∀ (k : Nat) (cs : Array Value) (T : TypeId) (z : Nat × Nat), U.heap[k]? = some (.cells cs T z) → T ≠ 98 → w'.heap[k]? = U.heap[k]? := by
  obtain ⟨W, hW⟩ : ∃ W, W = U.drew.alloc (.cells #[.int .i64 x.b, .int .i64 x.k.1, .int .i64 x.k.2, .int .i64 x.p.1, .int .i64 x.p.2, .bool x.s] 98) := ⟨_, rfl⟩
  have hbW : Below U.heap.size U W := by rw [hW]; exact (drew_below U 1).alloc (Nat.le_refl _) _
  have hs : W.heap.size = U.heap.size + 1 := by rw [hW]; simp
  have hr : W.ownsRow n0 98 6 v X.length (sgs X) := rowSame h (fun g hg => hbW.block g (World.ownsRow.lt h g hg).2)
  have hc : CsAt W.heap.size W (some ⟨U.heap.size, 0, none⟩) (sgs [x]) := fun j u hu => by
    refine ⟨U.heap.size, 0, rfl, by omega, ?_⟩
    have hb : W.heap[U.heap.size]? = some (.cells #[.int .i64 x.b, .int .i64 x.k.1, .int .i64 x.k.2, .int .i64 x.p.1, .int .i64 x.p.2, .bool x.s] 98 (0, 0)) := by rw [hW]; exact heap_alloc_new _ _ rfl
    rw [World.cell?, hb, Nat.zero_add]
    simpa [sgs] using hu
  obtain ⟨v', w', z1, z2, z3, _⟩ := akSg.app (w := W) ty n0 v X.length (sgs X) hr W.heap.size (some ⟨U.heap.size, 0, none⟩) 1 1 (sgs [x]) rfl hc (by simp) (by intro u hu; simp [sgs] at hu; rcases hu with rfl | rfl | rfl | rfl | rfl | rfl <;> rfl) (by omega) (by omega) (by omega)
  rw [← hW]
  refine ⟨v', w', z1, ?_, ?_, fun k cs T z hk hT => ?_⟩
  · unfold SgR
    rw [sgs_append, List.length_append]
    exact z2
  · exact (hbW.mono hn).grown z3 (by omega) (fun k e => (World.ownsRow.lt hr k e).1)
  · have hkl := blk_lt hk
    refine (z3.block k (by omega) (fun e => ?_)).trans (hbW.block k hkl)
    obtain ⟨cur, hcur⟩ := rowBlock hr e.symm
    rw [hbW.block k hkl, hk] at hcur
    simp only [Option.some.injEq, Obj.cells.injEq] at hcur
    exact hT hcur.2.1
def SgPost (w : World) (st : Bs) (e : Ending) (w' : World) : Prop := ∃ a m c X, e = .returned (.slice a m c) ∧ m = X.length ∧ m ≤ 3000000 ∧ SgR w.heap.size w' (.slice a m c) X ∧ (∀ x ∈ X, SgOK st x) ∧ Below w.heap.size w w'
def SgI (n0 : Nat) (X2 wr : World) (st : Bs) (v : Value) (m : Nat) : Prop := ∃ X, SgR n0 wr v X ∧ X.length ≤ m ∧ (∀ x ∈ X, SgOK st x) ∧ Below n0 X2 wr
theorem SgI.kept {n0 : Nat} {X2 wr wr' : World} {st : Bs} {v : Value} {m : Nat} (h : SgI n0 X2 wr st v m) (hb : Below wr.heap.size wr wr') (hn : n0 ≤ wr.heap.size) : SgI n0 X2 wr' st v m := by
  obtain ⟨X, h1, h2, h3, h4⟩ := h
  exact ⟨X, rowSame h1 (fun g hg => hb.block g (World.ownsRow.lt h1 g hg).2), h2, h3, h4.trans (hb.mono hn)⟩
theorem SgI.app {n0 : Nat} {X2 U : World} {st : Bs} {v : Value} {m : Nat} (h : SgI n0 X2 U st v m) (hm : m ≤ 3000000) (hn : n0 ≤ U.heap.size) (x : Sg) (hx : SgOK st x) (ty : TypeId) :
    ∃ v' w', (Builtin.append_ #[56, 56] ty #[v, .slice (some ⟨U.heap.size, 0, none⟩) 1 1]).run Try.prog (U.drew.alloc (.cells #[.int .i64 x.b, .int .i64 x.k.1, .int .i64 x.k.2, .int .i64 x.p.1, .int .i64 x.p.2, .bool x.s] 98)) = .ok v' w' ∧
      SgI n0 X2 w' st v' (m + 1) ∧ (∀ (k : Nat) (cs : Array Value) (T : TypeId) (z : Nat × Nat), U.heap[k]? = some (.cells cs T z) → T ≠ 98 → w'.heap[k]? = U.heap[k]?) ∧ U.heap.size ≤ w'.heap.size := by
  obtain ⟨X, h1, h2, h3, h4⟩ := h
  obtain ⟨v', w', z1, z2, z3, z4⟩ := sg_app h1 (by omega) hn x ty
  refine ⟨v', w', z1, ⟨X ++ [x], z2, by simp; omega, fun y hy => ?_, h4.trans z3⟩, z4, z3.size⟩
  rcases List.mem_append.1 hy with h | h
  · exact h3 y h
  · simp at h; rw [h]; exact hx
end Go.Proofs.Ytibdogniiglcjab
/-
  sights: THE WALK.
-/
namespace Go.Proofs.Ytibdogniiglcjab
open Go.RowKit Go.Sort

set_option maxHeartbeats 4000000 in
set_option maxRecDepth 100000 in
theorem sights_any (w : World) (B Mp Mc Mn : Nat) (cap : Int) (st : Bs) (nw : List K) (h : BA w B Mp Mc Mn cap st.la st.fl st.pins st.all nw) :
    Calls Try.prog 20 #[ptr B] w fun e w' => SgPost w st e w' := by
  obtain ⟨S, hS⟩ : ∃ S, S = sortK nw := ⟨_, rfl⟩
  obtain ⟨kn, hkn⟩ : ∃ kn, kn = S.length := ⟨_, rfl⟩
  have hkn2 : kn ≤ 65536 := by rw [hkn, hS]; exact Nat.le_trans (sortK_length nw) h.nwl
  obtain ⟨d, hd1, hd2, hdl⟩ := pins_rise st.pins h.pnd
  obtain ⟨dn, hdn⟩ : ∃ dn, dn = d.length := ⟨_, rfl⟩
  have hdn2 : dn ≤ 32 := by rw [hdn, hdl]; exact h.ps.1
  have HK1 : Hid (∀ W, Below w.heap.size w W → Calls Try.prog 22 #[ptr B] W fun e w' => ∃ ka kc, e = .returned (.slice ka kn kc) ∧ KeysAt w' ka S ∧ Below W.heap.size W w') := fun W hW => tell_keys (h.kept hW) S hS.symm kn hkn
  have HP1 : Hid (∀ W, Below w.heap.size w W → Calls Try.prog 23 #[ptr B] W fun e w' => ∃ ka kc, e = .returned (.slice ka dn kc) ∧ KeysAt w' ka (pnl st.pins d) ∧ Below W.heap.size W w') := fun W hW => tell_pins (h.kept hW) d hd1 hd2 dn hdn
  have HL1 : Hid (∀ W, Below w.heap.size w W → Calls Try.prog 18 #[ptr B] W fun e w' => e = .returned (.int .i64 st.la) ∧ w' = W) := fun W hW => latest_any W B Mp Mc Mn cap st.la st.fl st.pins st.all nw (h.kept hW)
  have HV1 : Hid (∀ k ∈ S, ∀ W, Below w.heap.size w W → Calls Try.prog 24 #[ptr B, kv k] W fun e w' => VersPost W k st.all e w') := fun k hk W hW => versions_any W B Mp Mc Mn cap st.la st.fl st.pins st.all nw (h.kept hW) k (h.nkin k (by rw [← hS]; exact hk))
  have HKi : Hid (∀ k ∈ S, KIn k) := fun k hk => h.nkin k (by rw [← hS]; exact hk)
  have HVl : Hid (∀ k, (plk (ofV k st.all)).length ≤ 1000000) := fun k => by
    have h1 : (ofV k st.all).length ≤ st.all.length := List.length_filter_le _ _
    have h3 := h.ln
    have h4 := h.cp
    simp [plk]
    omega
  have HD := hidC (And.intro hd2 hdn)
  have HN := hidC hkn
  clear h hS hkn hd1 hd2 hdl hdn
  go_enter Try.func20, Try.ntmps20
  go_wp2_with fail
  refine (HK1.out w (Below.refl _ _)).mono ?_
  rintro e X1 ⟨ka, kc, rfl, hka1, hb1⟩
  have HB1 := hidC hb1
  have HKa1 := hidC hka1
  clear hb1 hka1 HK1
  go_wp2_with fail
  refine (HP1.out X1 HB1.out).mono ?_
  rintro e X2 ⟨pa, pc, rfl, hpa, hb2⟩
  have HB2 : Hid (Below w.heap.size w X2) := HB1.out.trans (hb2.mono HB1.out.size)
  have HKa2 : Hid (KeysAt X2 ka S) := HKa1.out.kept hb2
  have HPa2 := hidC hpa
  clear hb2 hpa HB1 HKa1 HP1
  obtain ⟨n0, hn0⟩ : ∃ n0, n0 = X2.heap.size := ⟨_, rfl⟩
  have HN0 := hidC hn0
  have HBw : Hid (∀ W, Below n0 X2 W → Below w.heap.size w W) := fun W hW => HB2.out.trans (hW.mono (by rw [hn0]; exact HB2.out.size))
  have HKW : Hid (∀ W, Below n0 X2 W → KeysAt W ka S ∧ KeysAt W pa (pnl st.pins d)) := fun W hW => by
    rw [hn0] at hW
    exact ⟨HKa2.out.kept hW, HPa2.out.kept hW⟩
  have HI0 : Hid (SgI n0 X2 X2 st (.slice none 0 0) 0) := ⟨[], World.ownsRow_nil _ _ _ _, by simp, by simp, Below.refl _ _⟩
  clear hn0
  go_wp2_with fail
  go_loopw [3, 6, 7, 8, 9, 10, 11, 12] (fun v y _ _ _ _ _ _ wr => ∃ i : Nat, i ≤ kn ∧ y = .int .i64 (i : Int) ∧ Hid (SgI n0 X2 wr st v (i * 33))) (fun _ y _ _ _ _ _ _ _ => kn - (intOf y).toNat)
  case atStart => exact ⟨0, Nat.zero_le _, rfl, HI0.out⟩
  case round =>
    clear HI0
    obtain ⟨i, hi, rfl, HI⟩ := hrel
    have HBr : Hid (Below n0 X2 wr) := by obtain ⟨_, _, _, _, h⟩ := HI.out; exact h
    by_cases hlt : i < kn
    · have hil : i < S.length := by have := HN.out; omega
      have hmem : kd S i ∈ S := kd_mem hil
      obtain ⟨b, off, hao, e0, e1⟩ := KeysAt.get2 (HKW.out wr HBr.out).1 i hil
      subst hao
      have HVr := hidC (HV1.out _ hmem wr (HBw.out _ HBr.out))
      have HKk := hidC (HKi.out _ hmem)
      have HCk : Hid (∀ W, Below n0 X2 W → W.cell? ⟨b, off + i * 2, none⟩ = some (.int .i64 (kd S i).1) ∧ W.cell? ⟨b, off + i * 2 + 1, none⟩ = some (.int .i64 (kd S i).2)) := fun W hW => by
        obtain ⟨b', off', h1, h2, h3⟩ := KeysAt.get2 (HKW.out W hW).1 i hil
        cases h1
        exact ⟨h2, h3⟩
      have HVv := hidC (HVl.out (kd S i))
      generalize kd S i = kk at *
      obtain ⟨k1, k2⟩ := kk
      simp only at e0 e1 HCk
      simp only [kv] at HVr
      clear hmem
      go_wp2_with fail
      clear e0 e1
      refine HVr.out.mono ?_
      rintro e W1 ⟨vv, rfl, hov, hbv⟩
      obtain ⟨va, vc, rfl, _⟩ := row_at hov
      obtain ⟨V, hV⟩ : ∃ V, V = plk (ofV (k1, k2) st.all) := ⟨_, rfl⟩
      rw [← hV] at hov HVv ⊢
      obtain ⟨vn, hvn⟩ : ∃ vn, vn = V.length := ⟨_, rfl⟩
      have HOv : Hid (OwnPl W1 0 (.slice va vn vc) V) := by rw [hvn]; exact row_base hov (Nat.zero_le _)
      have HVn := hidC hvn
      have hvn2 : vn ≤ 1000000 := by rw [hvn]; exact HVv.out
      have HSee : Hid (∀ b, see st.all (k1, k2) b = nwL V b) := fun b => by rw [hV]; rfl
      rw [← hvn]
      have HI1 := hidC (HI.out.kept hbv (by have := HBr.out.size; have := HN0.out; omega))
      clear hov hbv hV hvn HVr HI HBr HVv
      go_wp2_with fail
      go_loopw [3, 8, 9, 10] (fun v y _ _ wq => ∃ (j : Nat) (vr : Value), v = vr ∧ j ≤ dn ∧ y = .int .i64 (j : Int) ∧ Hid (SgI n0 X2 wq st vr (i * 33 + j) ∧ OwnPl wq 0 (.slice va vn vc) V)) (fun _ y _ _ _ => dn - (intOf y).toNat)
      case atStart => exact ⟨0, _, rfl, Nat.zero_le _, rfl, HI1.out, HOv.out⟩
      case round =>
        clear HI1 HOv
        obtain ⟨j, vr, hvr, hj, rfl, HJ⟩ := hrel
        replace hvr := hvr.symm
        subst hvr
        have HBj : Hid (Below n0 X2 wr) := by obtain ⟨_, _, _, _, h⟩ := HJ.out.1; exact h
        have HJs : Hid (n0 ≤ wr.heap.size) := by have := HBj.out.size; have := HN0.out; show _ ≤ _; omega
        have HKv : Hid (KeysAt wr va V) := by
          have h1 := HJ.out.2
          rw [HVn.out] at h1
          obtain ⟨ao, c, h2, h3⟩ := row_at h1
          cases h2
          exact h3
        by_cases hltj : j < dn
        · have hjd : j < d.length := by have := HD.out.2; omega
          obtain ⟨pb, poff, hpao, p0, _⟩ := KeysAt.get2 (HKW.out wr HBj.out).2 j (by simp [pnl]; exact hjd)
          subst hpao
          rw [pnl_kd hjd] at p0
          simp only at p0
          have HCp : Hid (∀ W, Below n0 X2 W → W.cell? ⟨pb, poff + j * 2, none⟩ = some (.int .i64 d[j])) := fun W hW => by
            obtain ⟨b', off', h1, h2, h3⟩ := KeysAt.get2 (HKW.out W hW).2 j (by simp [pnl]; exact hjd)
            cases h1
            rw [pnl_kd hjd] at h2
            exact h2
          have HPm : Hid (d[j] ∈ st.pins.map Prod.fst) := (HD.out.1 _).1 (List.getElem_mem hjd)
          generalize d[j] = x at *
          obtain ⟨q1, q2, ok, hq⟩ : ∃ q1 q2 ok, nwL V x = ((q1, q2), ok) := ⟨_, _, _, rfl⟩
          have HNw : Hid (Calls Try.prog 43 #[.slice va vn vc, .int .i64 x] wr fun e w' => e = .returned (.tuple #[.agg #[.int .i64 q1, .int .i64 q2], .bool ok]) ∧ Below wr.heap.size wr w') := (newestL_any wr va vn vc V x HKv.out HVn.out hvn2).mono (fun e w' hx => by
            obtain ⟨h1, h2⟩ := hx
            rw [hq] at h1
            exact ⟨h1, h2⟩)
          have HOk : Hid (SgOK st ⟨x, (k1, k2), (q1, q2), ok⟩) := ⟨.inl HPm.out, HKk.out, by rw [HSee.out, hq]⟩
          clear hq
          go_wp2_with fail
          clear p0
          refine HNw.out.mono ?_
          rintro e wn ⟨rfl, hbn⟩
          obtain ⟨U, hU⟩ : ∃ U, U = wn.alloc (.cells #[.int .i64 q1, .int .i64 q2] 86) := ⟨_, rfl⟩
          obtain ⟨bx, hbx⟩ : ∃ bx, bx = wn.heap.size := ⟨_, rfl⟩
          have hbU : Below wr.heap.size wr U := by rw [hU]; exact hbn.alloc hbn.size _
          have HPB : Hid (PB U bx (q1, q2)) := by rw [hU, hbx]; exact heap_alloc_new _ _ rfl
          have HJU := hidC (HJ.out.1.kept hbU HJs.out)
          have HOU : Hid (OwnPl U 0 (.slice va vn vc) V) := rowSame HJ.out.2 (fun g hg => hbU.block g (World.ownsRow.lt HJ.out.2 g hg).2)
          have HBU : Hid (Below n0 X2 U) := HBj.out.trans (hbU.mono HJs.out)
          have HUs : Hid (n0 ≤ U.heap.size) := Nat.le_trans HJs.out hbU.size
          have HSx : Hid (∀ W, Below n0 X2 W → PB W bx (q1, q2) → W.cell? ⟨pb, poff + j * 2, none⟩ = some (.int .i64 x) ∧ W.cell? ⟨b, off + i * 2, none⟩ = some (.int .i64 k1) ∧ W.cell? ⟨b, off + i * 2 + 1, none⟩ = some (.int .i64 k2) ∧ W.cell? ⟨bx, 0, none⟩ = some (.int .i64 q1) ∧ W.cell? ⟨bx, 1, none⟩ = some (.int .i64 q2)) := fun W hW hB => ⟨HCp.out W hW, (HCk.out W hW).1, (HCk.out W hW).2, hB.cells.1, hB.cells.2⟩
          clear hbn hbU HNw HJ HKv HBj HJs
          go_upto_region 12 with fail
          rw [← hU, ← hbx]
          clear hU hbx
          obtain ⟨t0, t1, t2, t3, t4⟩ := HSx.out U HBU.out HPB.out
          have HSa : Hid (∀ o, (U.drew.alloc o).cell? ⟨pb, poff + j * 2, none⟩ = some (.int .i64 x) ∧ (U.drew.alloc o).cell? ⟨b, off + i * 2, none⟩ = some (.int .i64 k1) ∧ (U.drew.alloc o).cell? ⟨b, off + i * 2 + 1, none⟩ = some (.int .i64 k2) ∧ (U.drew.alloc o).cell? ⟨bx, 0, none⟩ = some (.int .i64 q1) ∧ (U.drew.alloc o).cell? ⟨bx, 1, none⟩ = some (.int .i64 q2)) := fun o => by
            have hb : Below U.heap.size U (U.drew.alloc o) := (drew_below U 1).alloc (Nat.le_refl _) o
            exact HSx.out _ (HBU.out.trans (hb.mono HUs.out)) ((hb.block bx (blk_lt HPB.out)).trans HPB.out)
          have HApp : Hid (∀ ty, ∃ v' w', (Builtin.append_ #[56, 56] ty #[vr, .slice (some ⟨U.heap.size, 0, none⟩) 1 1]).run Try.prog (U.drew.alloc (.cells #[.int .i64 x, .int .i64 k1, .int .i64 k2, .int .i64 q1, .int .i64 q2, .bool ok] 98)) = .ok v' w' ∧ (Hid (SgI n0 X2 w' st v' (i * 33 + (j + 1)) ∧ OwnPl w' 0 (.slice va vn vc) V) ∧ w'.cell? ⟨pb, poff + j * 2, none⟩ = some (.int .i64 x) ∧ w'.cell? ⟨b, off + i * 2, none⟩ = some (.int .i64 k1) ∧ w'.cell? ⟨b, off + i * 2 + 1, none⟩ = some (.int .i64 k2) ∧ w'.cell? ⟨bx, 0, none⟩ = some (.int .i64 q1) ∧ w'.cell? ⟨bx, 1, none⟩ = some (.int .i64 q2))) := fun ty => by
            obtain ⟨v', w', z1, z2, z3, z4⟩ := HJU.out.app (by omega) HUs.out ⟨x, (k1, k2), (q1, q2), ok⟩ HOk.out ty
            have hB9 : Below n0 X2 w' := by obtain ⟨_, _, _, _, h⟩ := z2; exact h
            refine ⟨v', w', z1, ⟨z2, rowSame HOU.out (fun g hg => ?_)⟩, HSx.out w' hB9 ((z3 bx _ _ _ HPB.out (by decide)).trans HPB.out)⟩
            obtain ⟨cur, hcur⟩ := rowBlock HOU.out hg
            exact z3 g _ _ _ hcur (by decide)
          go_region_held3 (fun w' => w'.cell? ⟨pb, poff + j * 2, none⟩ = some (.int .i64 x) ∧ w'.cell? ⟨b, off + i * 2, none⟩ = some (.int .i64 k1) ∧ w'.cell? ⟨b, off + i * 2 + 1, none⟩ = some (.int .i64 k2) ∧ w'.cell? ⟨bx, 0, none⟩ = some (.int .i64 q1) ∧ w'.cell? ⟨bx, 1, none⟩ = some (.int .i64 q2)) (first | with_reducible exact HS9.out | with_reducible exact HSa.out _ | go_keep) (first
            | (refine step_appG rfl _ _ 56 rfl vr (.slice (some ⟨U.heap.size, 0, none⟩) 1 1) rfl rfl HApp.out ?_; rintro v9 X9 ⟨HI9, hs9⟩; have HS9 := hidC hs9; clear hs9))
          clear t0 t1 t2 t3 t4 HSa HApp HS9 HSx
          go_wp2
          exact ⟨⟨j + 1, v9, rfl, by omega, by go_num, HI9.out⟩, by simp [intOf]; omega⟩
        · obtain ⟨q1, q2, ok, hq⟩ : ∃ q1 q2 ok, nwL V st.la = ((q1, q2), ok) := ⟨_, _, _, rfl⟩
          have HNw : Hid (Calls Try.prog 43 #[.slice va vn vc, .int .i64 st.la] wr fun e w' => e = .returned (.tuple #[.agg #[.int .i64 q1, .int .i64 q2], .bool ok]) ∧ Below wr.heap.size wr w') := (newestL_any wr va vn vc V st.la HKv.out HVn.out hvn2).mono (fun e w' hx => by
            obtain ⟨h1, h2⟩ := hx
            rw [hq] at h1
            exact ⟨h1, h2⟩)
          have HOk : Hid (SgOK st ⟨st.la, (k1, k2), (q1, q2), ok⟩) := ⟨.inr rfl, HKk.out, by rw [HSee.out, hq]⟩
          have HLr := hidC (HL1.out wr (HBw.out _ HBj.out))
          have HLw : Hid (∀ W, Below n0 X2 W → Calls Try.prog 18 #[ptr B] W fun e w' => e = .returned (.int .i64 st.la) ∧ w' = W) := fun W hW => HL1.out W (HBw.out _ hW)
          have HJx := hidC (And.intro (show i * 33 + j + 1 ≤ (i + 1) * 33 by omega) (show i * 33 + j ≤ 3000000 by omega))
          obtain ⟨x, hx⟩ : ∃ x, x = st.la := ⟨_, rfl⟩
          rw [← hx] at HNw HOk HLr HLw
          clear hq hx
          go_wp2_with fail
          refine HLr.out.mono ?_
          rintro e Y ⟨rfl, hY⟩
          have hY' := hY.symm
          subst hY'
          clear hY HLr
          go_wp2_with fail
          refine HNw.out.mono ?_
          rintro e wn ⟨rfl, hbn⟩
          obtain ⟨U, hU⟩ : ∃ U, U = wn.alloc (.cells #[.int .i64 q1, .int .i64 q2] 86) := ⟨_, rfl⟩
          obtain ⟨bx, hbx⟩ : ∃ bx, bx = wn.heap.size := ⟨_, rfl⟩
          have hbU : Below wr.heap.size wr U := by rw [hU]; exact hbn.alloc hbn.size _
          have HPB : Hid (PB U bx (q1, q2)) := by rw [hU, hbx]; exact heap_alloc_new _ _ rfl
          have HJU := hidC (HJ.out.1.kept hbU HJs.out)
          have HBU : Hid (Below n0 X2 U) := HBj.out.trans (hbU.mono HJs.out)
          have HUs : Hid (n0 ≤ U.heap.size) := Nat.le_trans HJs.out hbU.size
          have HSx : Hid (∀ W, Below n0 X2 W → PB W bx (q1, q2) → W.cell? ⟨b, off + i * 2, none⟩ = some (.int .i64 k1) ∧ W.cell? ⟨b, off + i * 2 + 1, none⟩ = some (.int .i64 k2) ∧ W.cell? ⟨bx, 0, none⟩ = some (.int .i64 q1) ∧ W.cell? ⟨bx, 1, none⟩ = some (.int .i64 q2)) := fun W hW hB => ⟨(HCk.out W hW).1, (HCk.out W hW).2, hB.cells.1, hB.cells.2⟩
          clear hbn hbU HNw HJ HKv HBj HJs
          go_upto_region 14 with fail
          rw [← hU, ← hbx]
          clear hU hbx
          obtain ⟨t1, t2, t3, t4⟩ := HSx.out U HBU.out HPB.out
          have HSa : Hid (∀ o, (U.drew.alloc o).cell? ⟨b, off + i * 2, none⟩ = some (.int .i64 k1) ∧ (U.drew.alloc o).cell? ⟨b, off + i * 2 + 1, none⟩ = some (.int .i64 k2) ∧ (U.drew.alloc o).cell? ⟨bx, 0, none⟩ = some (.int .i64 q1) ∧ (U.drew.alloc o).cell? ⟨bx, 1, none⟩ = some (.int .i64 q2)) := fun o => by
            have hb : Below U.heap.size U (U.drew.alloc o) := (drew_below U 1).alloc (Nat.le_refl _) o
            exact HSx.out _ (HBU.out.trans (hb.mono HUs.out)) ((hb.block bx (blk_lt HPB.out)).trans HPB.out)
          have HLd : Hid (Calls Try.prog 18 #[ptr B] U.drew fun e w' => e = .returned (.int .i64 x) ∧ w' = U.drew) := HLw.out _ (HBU.out.trans ((drew_below U 1).mono HUs.out))
          have HSd := hidC (HSx.out U.drew (HBU.out.trans ((drew_below U 1).mono HUs.out)) HPB.out)
          have HApp : Hid (∀ ty, ∃ v' w', (Builtin.append_ #[56, 56] ty #[vr, .slice (some ⟨U.heap.size, 0, none⟩) 1 1]).run Try.prog (U.drew.alloc (.cells #[.int .i64 x, .int .i64 k1, .int .i64 k2, .int .i64 q1, .int .i64 q2, .bool ok] 98)) = .ok v' w' ∧ (Hid (SgI n0 X2 w' st v' ((i + 1) * 33)) ∧ w'.cell? ⟨b, off + i * 2, none⟩ = some (.int .i64 k1) ∧ w'.cell? ⟨b, off + i * 2 + 1, none⟩ = some (.int .i64 k2) ∧ w'.cell? ⟨bx, 0, none⟩ = some (.int .i64 q1) ∧ w'.cell? ⟨bx, 1, none⟩ = some (.int .i64 q2))) := fun ty => by
            obtain ⟨v', w', z1, ⟨Xs, y1, y2, y3, hB9⟩, z3, z4⟩ := HJU.out.app HJx.out.2 HUs.out ⟨x, (k1, k2), (q1, q2), ok⟩ HOk.out ty
            exact ⟨v', w', z1, ⟨Xs, y1, Nat.le_trans y2 HJx.out.1, y3, hB9⟩, HSx.out w' hB9 ((z3 bx _ _ _ HPB.out (by decide)).trans HPB.out)⟩
          go_region_held3 (fun w' => w'.cell? ⟨b, off + i * 2, none⟩ = some (.int .i64 k1) ∧ w'.cell? ⟨b, off + i * 2 + 1, none⟩ = some (.int .i64 k2) ∧ w'.cell? ⟨bx, 0, none⟩ = some (.int .i64 q1) ∧ w'.cell? ⟨bx, 1, none⟩ = some (.int .i64 q2)) (first | with_reducible exact HS9.out | with_reducible exact HSa.out _ | with_reducible exact HSd.out | go_keep) (first
            | (refine step_appG rfl _ _ 56 rfl vr (.slice (some ⟨U.heap.size, 0, none⟩) 1 1) rfl rfl HApp.out ?_; rintro v9 X9 ⟨HI9, hs9⟩; have HS9 := hidC hs9; clear hs9)
            | (go_at_call 18; with_reducible refine HLd.out.mono ?_; rintro e Y ⟨rfl, rfl⟩))
          clear t1 t2 t3 t4 HSa HApp HS9 HSx
          go_wp2
          exact ⟨⟨i + 1, by omega, by go_num, HI9.out⟩, by simp [intOf]; omega⟩
    · obtain ⟨X, h1, h2, h3, h4⟩ := HI.out
      obtain ⟨va, vm, vc, hv, hvm⟩ : ∃ a m c, u3 = .slice a m c ∧ m = X.length := by
        obtain ⟨_, ⟨h, h0⟩ | ⟨g, cp, cur, h, _⟩⟩ := h1
        · exact ⟨_, _, _, h, h0.symm⟩
        · exact ⟨_, _, _, h, rfl⟩
      subst hv
      have HX : Hid (SgPost w st (.returned (.slice va vm vc)) wr) := ⟨va, vm, vc, X, rfl, hvm, by omega, row_base h1 (by rw [HN0.out]; exact HB2.out.size), h3, HBw.out _ h4⟩
      clear h1 h2 h3 h4 hvm HI HBr
      go_wp2
      go_ret
      exact HX.out
end Go.Proofs.Ytibdogniiglcjab
/-
  still: DOES EACH BATCH SEE WHAT IT SAW?
-/
namespace Go.Proofs.Ytibdogniiglcjab
open Go.RowKit Go.Sort

def StPost (w : World) (e : Ending) (w' : World) : Prop := e = .returned (.bool true) ∧ Below w.heap.size w w'
theorem CsAt.sg {N : Nat} {w : World} {ao : Option Addr} {l : List Sg} (h : CsAt N w ao (sgs l)) {i : Nat} (hi : i < l.length) : ∃ b off, ao = some ⟨b, off, none⟩ ∧ b < N ∧ w.cell? ⟨b, off + i * 6, none⟩ = some (.int .i64 l[i].b) ∧ w.cell? ⟨b, off + i * 6 + 1, none⟩ = some (.int .i64 l[i].k.1) ∧ w.cell? ⟨b, off + i * 6 + 2, none⟩ = some (.int .i64 l[i].k.2) ∧ w.cell? ⟨b, off + i * 6 + 3, none⟩ = some (.int .i64 l[i].p.1) ∧ w.cell? ⟨b, off + i * 6 + 4, none⟩ = some (.int .i64 l[i].p.2) ∧ w.cell? ⟨b, off + i * 6 + 5, none⟩ = some (.bool l[i].s) := by
  obtain ⟨h0, h1, h2, h3, h4, h5⟩ := sgs_at l i hi
  obtain ⟨b, off, e0, hb, c0⟩ := h _ _ h0
  have hc : ∀ n x, (sgs l)[i * 6 + n]? = some x → w.cell? ⟨b, off + i * 6 + n, none⟩ = some x := fun n x hx => by
    obtain ⟨b', off', e', _, c'⟩ := h _ _ hx
    rw [e0] at e'
    cases e'
    rw [Nat.add_assoc]
    exact c'
  exact ⟨b, off, e0, hb, c0, hc 1 _ h1, hc 2 _ h2, hc 3 _ h3, hc 4 _ h4, hc 5 _ h5⟩
set_option maxHeartbeats 4000000 in
set_option maxRecDepth 100000 in
theorem still_any (w : World) (B Mp Mc Mn : Nat) (cap la fl : Int) (pins : List (Int × Int)) (all : List V4) (nw : List K) (h : BA w B Mp Mc Mn cap la fl pins all nw) (ao : Option Addr) (m c : Nat) (X : List Sg) (hX : CsAt w.heap.size w ao (sgs X)) (hm : m = X.length) (hm2 : m ≤ 3000000) (hOk : ∀ x ∈ X, KIn x.k ∧ (x.p, x.s) = see all x.k x.b) (al : Bool) :
    Calls Try.prog 21 #[ptr B, .slice ao m c, .bool al] w fun e w' => StPost w e w' := by
  have HPn : Hid (∀ n W, Below w.heap.size w W → Calls Try.prog 30 #[ptr B, .int .i64 n] W fun e w' => e = .returned (.bool (decide (n ∈ pins.map Prod.fst))) ∧ Below W.heap.size W w') := fun n W hW => isPinned_any W B Mp Mc Mn cap la fl pins all nw (h.kept hW) n
  have HV1 : Hid (∀ k, KIn k → ∀ W, Below w.heap.size w W → Calls Try.prog 24 #[ptr B, kv k] W fun e w' => ∃ va vn vc, e = .returned (.slice va vn vc) ∧ KeysAt w' va (plk (ofV k all)) ∧ vn = (plk (ofV k all)).length ∧ Below W.heap.size W w') := fun k hk W hW => (versions_any W B Mp Mc Mn cap la fl pins all nw (h.kept hW) k hk).mono (fun e w' hx => by
    obtain ⟨v, rfl, ho, hb⟩ := hx
    obtain ⟨va, vc, rfl, hka⟩ := row_at ho
    exact ⟨va, _, vc, rfl, hka, rfl, hb⟩)
  have HVl : Hid (∀ k, (plk (ofV k all)).length ≤ 1000000) := fun k => by
    have h1 : (ofV k all).length ≤ all.length := List.length_filter_le _ _
    have h3 := h.ln
    have h4 := h.cp
    simp [plk]
    omega
  have HX : Hid (∀ W, Below w.heap.size w W → CsAt w.heap.size W ao (sgs X)) := fun W hW => hX.below hW
  have HOk := hidC hOk
  have HM := hidC hm
  clear h hX hm hOk
  go_enter Try.func21, Try.ntmps21
  go_wp2_with fail
  go_loopw [7, 8, 9] (fun y _ _ wr => ∃ i : Nat, i ≤ m ∧ y = .int .i64 (i : Int) ∧ Hid (Below w.heap.size w wr)) (fun y _ _ _ => m - (intOf y).toNat)
  case atStart => exact ⟨0, Nat.zero_le _, rfl, Below.refl _ _⟩
  case round =>
    obtain ⟨i, hi, rfl, HI⟩ := hrel
    by_cases hlt : i < m
    · have hil : i < X.length := by have := HM.out; omega
      obtain ⟨b, off, hao, hbl, t0, t1, t2, t3, t4, t5⟩ := (HX.out wr HI.out).sg hil
      subst hao
      have HCx : Hid (∀ W, Below w.heap.size w W → W.cell? ⟨b, off + i * 6, none⟩ = some (.int .i64 X[i].b) ∧ W.cell? ⟨b, off + i * 6 + 1, none⟩ = some (.int .i64 X[i].k.1) ∧ W.cell? ⟨b, off + i * 6 + 2, none⟩ = some (.int .i64 X[i].k.2) ∧ W.cell? ⟨b, off + i * 6 + 3, none⟩ = some (.int .i64 X[i].p.1) ∧ W.cell? ⟨b, off + i * 6 + 4, none⟩ = some (.int .i64 X[i].p.2) ∧ W.cell? ⟨b, off + i * 6 + 5, none⟩ = some (.bool X[i].s)) := fun W hW => by
        obtain ⟨b', off', e', _, h⟩ := (HX.out W hW).sg hil
        cases e'
        exact h
      have HOx := hidC (HOk.out _ (List.getElem_mem hil))
      generalize X[i] = x at *
      obtain ⟨xb, ⟨k1, k2⟩, ⟨q1, q2⟩, ok⟩ := x
      simp only at t0 t1 t2 t3 t4 t5 HCx HOx
      have HVr := hidC (HV1.out _ HOx.out.1)
      have HPr := hidC (HPn.out xb)
      simp only [kv] at HVr
      have HVn := hidC (HVl.out (k1, k2))
      have HSee := hidC HOx.out.2
      obtain ⟨V, hV⟩ : ∃ V, V = plk (ofV (k1, k2) all) := ⟨_, rfl⟩
      unfold see at HSee
      rw [← hV] at HVr HVn HSee
      clear hV HOx
      generalize decide (xb ∈ pins.map Prod.fst) = pz at *
      go_upto_region 4 with fail
      go_cut [27] from 10 to 59 (fun x wx => ∃ bb : Bool, x = .bool bb ∧ Hid (Below w.heap.size w wx))
      case first =>
        cases al with
        | true =>
          go_wp2_with fail
          go_meet
          exact ⟨_, rfl, HI.out⟩
        | false =>
          go_wp2_with fail
          refine (HPr.out wr HI.out).mono ?_
          rintro e wp ⟨rfl, hbp⟩
          have HBp : Hid (Below w.heap.size w wp) := HI.out.trans (hbp.mono HI.out.size)
          clear hbp
          go_wp2_with fail
          go_meet
          exact ⟨_, rfl, HBp.out⟩
      case rest =>
        obtain ⟨bb, rfl, HBc⟩ := hcut
        clear HI t0 t1 t2 t3 t4 t5 HPr
        generalize wc = U at *
        cases bb with
        | true =>
          go_wp2
          exact ⟨⟨i + 1, by omega, by go_num, HBc.out⟩, by simp [intOf]; omega⟩
        | false =>
          have HBd : Hid (Below U.heap.size U U.drew) := drew_below U 1
          have HBa : Hid (∀ o, Below U.heap.size U (U.alloc o).drew) := fun o => alloc_drew2 U o
          have HBU : Hid (∀ W, Below U.heap.size U W → Below w.heap.size w W) := fun W hW => HBc.out.trans (hW.mono HBc.out.size)
          have HVd : Hid (∀ W, Below U.heap.size U W → Calls Try.prog 24 #[ptr B, .agg #[.int .i64 k1, .int .i64 k2]] W fun e w' => ∃ va vn vc, e = .returned (.slice va vn vc) ∧ KeysAt w' va V ∧ vn = V.length ∧ Below W.heap.size W w') := fun W hW => HVr.out W (HBU.out W hW)
          have HNw : Hid (∀ W va vn vc, KeysAt W va V → vn = V.length → Calls Try.prog 43 #[.slice va vn vc, .int .i64 xb] W fun e w' => e = .returned (.tuple #[.agg #[.int .i64 q1, .int .i64 q2], .bool ok]) ∧ Below W.heap.size W w') := fun W va vn vc hk hv => (newestL_any W va vn vc V xb hk hv (by rw [hv]; exact HVn.out)).mono (fun e w' hx => by
            obtain ⟨h1, h2⟩ := hx
            rw [← HSee.out] at h1
            exact ⟨h1, h2⟩)
          have HSx : Hid (∀ W, Below U.heap.size U W → W.cell? ⟨b, off + i * 6, none⟩ = some (.int .i64 xb) ∧ W.cell? ⟨b, off + i * 6 + 1, none⟩ = some (.int .i64 k1) ∧ W.cell? ⟨b, off + i * 6 + 2, none⟩ = some (.int .i64 k2)) := fun W hW => by
            obtain ⟨h0, h1, h2, _⟩ := HCx.out W (HBU.out W hW)
            exact ⟨h0, h1, h2⟩
          have HSt : Hid (∀ Y bx v1 v2, Below U.heap.size U Y → U.heap.size ≤ bx → ((Y.setCell ⟨bx, 0, none⟩ v1).setCell ⟨bx, 1, none⟩ v2).cell? ⟨b, off + i * 6, none⟩ = some (.int .i64 xb) ∧ ((Y.setCell ⟨bx, 0, none⟩ v1).setCell ⟨bx, 1, none⟩ v2).cell? ⟨b, off + i * 6 + 1, none⟩ = some (.int .i64 k1) ∧ ((Y.setCell ⟨bx, 0, none⟩ v1).setCell ⟨bx, 1, none⟩ v2).cell? ⟨b, off + i * 6 + 2, none⟩ = some (.int .i64 k2)) := fun Y bx v1 v2 hY hb => HSx.out _ ((hY.setCell (p := ⟨bx, 0, none⟩) hb _).setCell (p := ⟨bx, 1, none⟩) hb _)
          have HPa : Hid (∀ W W' : World, Below (W.alloc (.cells #[.int .i64 0, .int .i64 0] 86)).heap.size (W.alloc (.cells #[.int .i64 0, .int .i64 0] 86)) W' → PB W' W.heap.size (0, 0)) := fun W W' hW => (hW.block _ (by simp)).trans (heap_alloc_new _ _ rfl)
          have HPd : Hid (∀ W W' : World, Below (W.alloc (.cells #[.int .i64 0, .int .i64 0] 86)).drew.heap.size (W.alloc (.cells #[.int .i64 0, .int .i64 0] 86)).drew W' → PB W' W.heap.size (0, 0)) := fun W W' hW => HPa.out W W' ⟨hW.os, hW.tape, hW.output, hW.size, hW.block⟩
          have HPk : Hid (∀ (W W' : World) bx, PB W bx (0, 0) → Below W.heap.size W W' → PB W' bx (0, 0)) := fun W W' bx h hW => (hW.block _ (blk_lt h)).trans h
          have HKl : Hid (∀ (W : World) va o, KeysAt W va V → KeysAt (W.alloc o) va V) := fun W va o h => h.kept ((Below.refl _ _).alloc (Nat.le_refl _) o)
          have HQa : Hid (∀ W W' o, Below U.heap.size U W → Below (World.alloc W o).heap.size (W.alloc o) W' → Below U.heap.size U W') := fun W W' o h hb => (h.alloc h.size o).trans (hb.mono (h.alloc h.size o).size)
          clear HVr HVn HSee
          go_upto_region 5 with fail
          go_cut [8, 9] from 10 to 59 (fun x y wx => ∃ bx, x = ptr bx ∧ y = .bool ok ∧ Hid (PB wx bx (q1, q2) ∧ Below w.heap.size w wx))
          case first =>
            obtain ⟨t0, t1, t2⟩ := HSx.out U (Below.refl _ _)
            go_region_held3 (fun w' => w'.cell? ⟨b, off + i * 6, none⟩ = some (.int .i64 xb) ∧ w'.cell? ⟨b, off + i * 6 + 1, none⟩ = some (.int .i64 k1) ∧ w'.cell? ⟨b, off + i * 6 + 2, none⟩ = some (.int .i64 k2)) (first | with_reducible exact HSx.out _ HQ2.out | with_reducible exact HSx.out _ HQ1.out | with_reducible exact HSx.out _ (HBa.out _) | with_reducible exact HSx.out _ (HQ1.out.alloc HQ1.out.size _) | with_reducible exact HSx.out _ (HQ2.out.alloc HQ2.out.size _) | with_reducible exact HSt.out _ _ _ _ HQ2.out (Nat.le_refl _) | with_reducible exact HSt.out _ _ _ _ HQ2.out HQ1.out.size | with_reducible exact HSt.out _ _ _ _ (HQ2.out.alloc HQ2.out.size _) HQ2.out.size | go_keep) (first
              | (go_at_call 24; with_reducible refine (HVd.out U.drew HBd.out).mono ?_; rintro e Y1 ⟨va, vn, vc, rfl, hka, hvn, hb⟩; have HQ1 := hidC (HBd.out.trans (hb.mono HBd.out.size)); have HKa := hidC hka; have HVm := hidC hvn; clear hka hvn hb)
              | (go_at_call 24; with_reducible refine (HVd.out (U.alloc (.cells #[.int .i64 0, .int .i64 0] 86)).drew (HBa.out _)).mono ?_; rintro e Y1 ⟨va, vn, vc, rfl, hka, hvn, hb⟩; have HQ1 := hidC ((HBa.out _).trans (hb.mono (HBa.out _).size)); have HPx := hidC (HPd.out _ _ hb); have HKa := hidC hka; have HVm := hidC hvn; clear hka hvn hb)
              | (go_at_call 43; with_reducible refine (HNw.out Y1 va vn vc HKa.out HVm.out).mono ?_; rintro e Y2 ⟨rfl, hb2⟩; have HP2 := hidC (HPk.out _ _ _ HPx.out hb2); obtain ⟨z0, z1⟩ := HP2.out.cells; have f0 := HP2.out.frozen 0; have f1 := HP2.out.frozen 1; have HQ2 := hidC (HQ1.out.trans (hb2.mono HQ1.out.size)); clear hb2)
              | (go_at_call 43; with_reducible refine (HNw.out Y1 va vn vc HKa.out HVm.out).mono ?_; rintro e Y2 ⟨rfl, hb2⟩; have HQ2 := hidC (HQ1.out.trans (hb2.mono HQ1.out.size)); clear hb2)
              | (go_at_call 43; with_reducible refine (HNw.out (Y1.alloc (.cells #[.int .i64 0, .int .i64 0] 86)) va vn vc (HKl.out _ _ _ HKa.out) HVm.out).mono ?_; rintro e Y2 ⟨rfl, hb2⟩; have HP2 := hidC (HPa.out _ _ hb2); obtain ⟨z0, z1⟩ := HP2.out.cells; have f0 := HP2.out.frozen 0; have f1 := HP2.out.frozen 1; have HQ2 := hidC (HQa.out _ _ _ HQ1.out hb2); clear hb2))
            · have HZ : Hid (PB (Y2.alloc (.cells #[.int .i64 q1, .int .i64 q2] 86)) Y2.heap.size (q1, q2) ∧ Below w.heap.size w (Y2.alloc (.cells #[.int .i64 q1, .int .i64 q2] 86))) := ⟨heap_alloc_new _ _ rfl, HBU.out _ (HQ2.out.alloc HQ2.out.size _)⟩
              clear t0 t1 t2
              go_wp2_with fail
              go_meet
              exact ⟨_, rfl, rfl, HZ.out⟩
            · have HZ : Hid (PB (s2 Y2 Y1.heap.size (q1, q2)) Y1.heap.size (q1, q2) ∧ Below w.heap.size w (s2 Y2 Y1.heap.size (q1, q2))) := ⟨HP2.out.two (q1, q2), HBU.out _ ((HQ2.out.setCell (p := ⟨Y1.heap.size, 0, none⟩) HQ1.out.size _).setCell (p := ⟨Y1.heap.size, 1, none⟩) HQ1.out.size _)⟩
              clear t0 t1 t2
              go_wp2_with fail
              go_meet
              exact ⟨_, rfl, rfl, HZ.out⟩
            · have HZ : Hid (PB (s2 Y2 U.heap.size (q1, q2)) U.heap.size (q1, q2) ∧ Below w.heap.size w (s2 Y2 U.heap.size (q1, q2))) := ⟨HP2.out.two (q1, q2), HBU.out _ ((HQ2.out.setCell (p := ⟨U.heap.size, 0, none⟩) (Nat.le_refl _) _).setCell (p := ⟨U.heap.size, 1, none⟩) (Nat.le_refl _) _)⟩
              clear t0 t1 t2
              go_wp2_with fail
              go_meet
              exact ⟨_, rfl, rfl, HZ.out⟩
          case rest =>
            obtain ⟨bx, rfl, rfl, HR⟩ := hcut
            generalize wc = U2 at *
            obtain ⟨t0, t1, t2, t3, t4, t5⟩ := HCx.out U2 HR.out.2
            obtain ⟨c0, c1⟩ := HR.out.1.cells
            simp only at c0 c1
            have hq := eqPlace (q1, q2) (q1, q2)
            have hgd := fun op x y => gdPlace op x y q1 q2 q1 q2
            simp only [decide_true, Bool.not_true] at hq
            go_upto_region 6 with fail
            go_quiet (fail)
            have HZ : Hid (Below w.heap.size w (U2.drewN nq)) := HR.out.2.trans ((drew_below U2 nq).mono HR.out.2.size)
            clear t0 t1 t2 t3 t4 t5 c0 c1 HR
            go_wp2
            exact ⟨⟨i + 1, by omega, by go_num, HZ.out⟩, by simp [intOf]; omega⟩
    · have HZ : Hid (StPost w (.returned (.bool true)) wr) := ⟨rfl, HI.out⟩
      go_wp2
      go_ret
      exact HZ.out
end Go.Proofs.Ytibdogniiglcjab
/-
  BookSees: THE LAW.
-/
namespace Go.Proofs.Ytibdogniiglcjab
open Go.RowKit Go.Sort

def SeePost (w : World) (e : Ending) (w' : World) : Prop := e = .returned (.bool true) ∧ Below w.heap.size w w'
set_option maxHeartbeats 4000000 in
set_option maxRecDepth 100000 in
theorem lawBkSees (w : World) (cap : Int) (rs : Bool) (s : Sn) (hs : SnAt w.heap.size w s) (hsi : SnIn s) (ao : Option Addr) (n c : Nat) (os : List Oc) (hn : n = os.length) (hops : OpsAt (fun k => w.heap.size ≤ k) w ao os) (hin : OpsIn os) (hnb : n ≤ 140737488351232) :
    Calls Try.prog 4 #[mdv cap rs s, .slice ao n c] w fun e w' => SeePost w e w' := by
  obtain ⟨pn, hpn⟩ : ∃ pn, pn = s.pins.length := ⟨_, rfl⟩
  obtain ⟨cn, hcn⟩ : ∃ cn, cn = s.chs.length := ⟨_, rfl⟩
  obtain ⟨pa, hpa⟩ : ∃ pa, pa = s.pa := ⟨_, rfl⟩
  obtain ⟨ca, hca⟩ : ∃ ca, ca = s.ca := ⟨_, rfl⟩
  obtain ⟨pc, hpc⟩ : ∃ pc, pc = s.pc := ⟨_, rfl⟩
  obtain ⟨cc, hcc⟩ : ∃ cc, cc = s.cc := ⟨_, rfl⟩
  obtain ⟨la, hla⟩ : ∃ la, la = s.la := ⟨_, rfl⟩
  have hmv : mdv cap rs s = .agg #[.int .i64 cap, .bool rs, .int .i64 la, .slice pa pn pc, .slice ca cn cc] := by rw [hla, hpa, hpn, hpc, hca, hcn, hcc]; rfl
  obtain ⟨W1, hW1⟩ : ∃ W1, W1 = w.alloc (.cells #[.int .i64 cap, .bool rs, .int .i64 la, .slice pa pn pc, .slice ca cn cc] 29) := ⟨_, rfl⟩
  obtain ⟨Kb, hKb⟩ : ∃ Kb, Kb = w.heap.size := ⟨_, rfl⟩
  have HB : Hid (Below w.heap.size w W1 ∧ W1.heap[Kb]? = some (.cells #[.int .i64 cap, .bool rs, .int .i64 la, .slice pa pn pc, .slice ca cn cc] 29 (0, 0))) := by
    rw [hW1, hKb]
    exact ⟨(Below.refl _ _).alloc (Nat.le_refl _) _, heap_alloc_new _ _ rfl⟩
  have HK : Hid (∀ W, Below W1.heap.size W1 W → W.cell? ⟨Kb, 0, none⟩ = some (.int .i64 cap) ∧ W.cell? ⟨Kb, 1, none⟩ = some (.bool rs) ∧ W.cell? ⟨Kb, 2, none⟩ = some (.int .i64 la) ∧ W.cell? ⟨Kb, 3, none⟩ = some (.slice pa pn pc) ∧ W.cell? ⟨Kb, 4, none⟩ = some (.slice ca cn cc)) := fun W hW => by
    have h4 : W.heap[Kb]? = _ := (hW.block _ (blk_lt HB.out.2)).trans HB.out.2
    refine ⟨?_, ?_, ?_, ?_, ?_⟩ <;> simp [World.cell?, h4]
  have HS : Hid (∀ W, Below w.heap.size w W → SnAt w.heap.size W s) := fun W hW => hs.below hW
  have HO : Hid (∀ W, Below w.heap.size w W → OpsAt (fun k => w.heap.size ≤ k) W ao os) := fun W hW => hops.fr ⟨hW.os, hW.tape, hW.output, hW.size, fun k hk _ => hW.block k hk⟩
  have HBw : Hid (∀ W, Below W1.heap.size W1 W → Below w.heap.size w W) := fun W hW => HB.out.1.trans (hW.mono HB.out.1.size)
  have HP3 : Hid (Calls Try.prog 8 #[.agg #[.int .i64 cap, .bool rs, .int .i64 la, .slice pa pn pc, .slice ca cn cc], .slice ao n c] W1 fun e w' => ∃ r, e = .returned (.int .i64 r) ∧ PartsO pn (s.chs.map (fun c => c.l.length)) os r ∧ Below W1.heap.size W1 w') := by
    have hch : ChsAt W1 ca (s.chs.map (fun c => c.l.length)) := by rw [hca]; exact (HS.out W1 HB.out.1).chs hsi.nv
    exact partsO_any _ W1 cap rs la pa pn pc ca cn cc _ ao n c os (by rw [List.length_map]; exact hcn) hn hch (HO.out W1 HB.out.1) (by rw [hpn]; exact hsi.np) (by rw [hcn]; exact hsi.nc) hnb
  have HE := hidC (And.intro hpn hcn)
  have HN := hidC hn
  have HIn := hidC (And.intro hin hsi)
  have HMv := hidC hmv
  rw [hmv]
  clear hpn hcn hpa hca hpc hcc hla hs hops hmv hn hin hsi
  go_enter Try.func4, Try.ntmps4
  go_upto_region 1 with fail
  rw [← hW1, ← hKb]
  clear hW1 hKb
  obtain ⟨k0, k1, k2, k3, k4⟩ := HK.out W1 (Below.refl _ _)
  go_wp2_with fail
  clear k0 k1 k2 k3 k4
  refine HP3.out.mono ?_
  rintro e X3 ⟨r, rfl, hr, hb3⟩
  have HQ3 := hidC hb3
  have HPr := hidC hr
  clear hr hb3 HP3
  by_cases hr0 : r < 0
  · have hr1 : decide (r < 0) = true := decide_eq_true hr0
    have HX : Hid (SeePost w (.returned (.bool true)) X3) := ⟨rfl, HBw.out _ HQ3.out⟩
    go_wp2
    go_ret
    exact HX.out
  have hr1 : decide (r < 0) = false := decide_eq_false hr0
  have HPo := hidC (HPr.out (by omega))
  have HSo : Hid (SnOK s) := HIn.out.2.ok (os := os) (r := r) (by rw [← HE.out.1]; exact HPr.out) (by omega)
  clear HPr
  go_wp2_with fail
  refine (works_any X3).mono ?_
  rintro e X4 ⟨rfl, hb4⟩
  have HQ4 := hidC (HQ3.out.trans (hb4.mono HQ3.out.size))
  clear hb4
  obtain ⟨k0, k1, k2, k3, k4⟩ := HK.out X4 HQ4.out
  have HMd : Hid (∀ X, Below W1.heap.size W1 X → Calls Try.prog 19 #[.agg #[.int .i64 cap, .bool rs, .int .i64 la, .slice pa pn pc, .slice ca cn cc]] X fun e w' => MadePost X cap rs s e w') := fun X hX => by
    have h1 := made_any w.heap.size X cap rs s (HS.out X (HBw.out _ hX)) (HBw.out _ hX).size HSo.out
    rw [HMv.out] at h1
    exact h1
  go_wp2_with fail
  clear k0 k1 k2 k3 k4
  refine (HMd.out X4 HQ4.out).mono ?_
  rintro e X5 ⟨P, bv, rv, rfl, hP, hPl, hb5, ⟨_, rfl, rfl⟩ | ⟨_, B, Mp, Mc, Mn, nw0, R, av, pvv, rfl, rfl, hba, hsb, _⟩⟩
  · have p0 : X5.cell? ⟨P, 0, none⟩ = some (.pointer none) := by simp [World.cell?, hP]
    have HX : Hid (SeePost w (.returned (.bool true)) X5) := by
      have h1 := HBw.out _ HQ4.out
      exact ⟨rfl, h1.trans (hb5.mono h1.size)⟩
    clear hP hPl hb5 HMd
    go_wp2
    go_ret
    exact HX.out
  have p0 : X5.cell? ⟨P, 0, none⟩ = some (ptr B) := by simp [World.cell?, hP]
  have HB5 : Hid (Below w.heap.size w X5) := by
    have h1 := HBw.out _ HQ4.out
    exact h1.trans (hb5.mono h1.size)
  have HSb : Hid (∀ k, SB B Mp Mc Mn k → w.heap.size ≤ k) := fun k hk => Nat.le_trans (HBw.out _ HQ4.out).size (hsb k hk)
  have HA5 : Hid (∃ (st : Bs) (nw : List K), BA X5 B Mp Mc Mn cap st.la st.fl st.pins st.all nw ∧ Below w.heap.size w X5) := ⟨⟨mdL rs s, mdL rs s, mdP rs s, mdA rs s⟩, nw0, hba, HB5.out⟩
  clear hP hPl hb5 hba hsb HMd HQ4 HQ3 HSo HB5
  go_wp2_with fail
  clear p0
  go_loopw [8, 9, 10] (fun y _ _ wr => ∃ i : Nat, i ≤ n ∧ y = .int .i64 (i : Int) ∧ Hid (∃ (st : Bs) (nw : List K), BA wr B Mp Mc Mn cap st.la st.fl st.pins st.all nw ∧ Below w.heap.size w wr)) (fun y _ _ _ => n - (intOf y).toNat)
  case atStart => exact ⟨0, Nat.zero_le _, rfl, HA5.out⟩
  case round =>
    clear HA5
    obtain ⟨i, hi, rfl, HI⟩ := hrel
    obtain ⟨st, nw, hA, hbw⟩ := HI.out
    clear HI
    by_cases hlt : i < n
    · have hil : i < os.length := by have := HN.out; omega
      have HSg := hidC (sights_any wr B Mp Mc Mn cap st nw hA)
      have HAr := hidC hA
      have HBr := hidC hbw
      have HPi := hidC (HPo.out.2.2.2.2 os[i] (List.getElem_mem hil))
      have HIo := hidC (HIn.out.1 _ (List.getElem_mem hil))
      have HOK : Hid (OcOK os[i]) := ⟨HPi.out.1, HPi.out.2, HIo.out.1, HIo.out.2.1⟩
      have HLs : Hid ((∀ p ∈ st.pins, p.1 ≤ st.la) ∧ ∀ v ∈ st.all, v.2.1 ≤ st.la) := ⟨fun p hp => (hA.ps.2 p hp).2.1, fun v hv => by have := hA.pl v hv; unfold PlOK at this; omega⟩
      clear hA hbw HPi HIo
      go_wp2_with fail
      refine HSg.out.mono ?_
      rintro e W1 ⟨la1, lm, lc, X, rfl, hlm, hlm2, hrow, hok, hb1⟩
      have HA1 := hidC (HAr.out.kept hb1)
      have HB1 : Hid (Below w.heap.size w W1) := HBr.out.trans (hb1.mono HBr.out.size)
      have HRow := hidC hrow
      have HXk := hidC (And.intro hlm hok)
      clear hlm hrow hok hb1 HAr HBr HSg
      obtain ⟨b, off, hao, hoc⟩ := HO.out W1 HB1.out i hil
      subst hao
      have HDo := hidC (do_any _ W1 B Mp Mc Mn cap st nw HA1.out os[i] HOK.out hoc.ws)
      have HCk : Hid (∀ W, Below w.heap.size w W → W.cell? ⟨b, off + i * 5, none⟩ = some (.int .i64 os[i].kind)) := fun W hW => by
        obtain ⟨b', off', e', h⟩ := HO.out W hW i hil
        cases e'
        exact h.c0
      obtain ⟨_, _, c0, c1, c2, c3, c4, _⟩ := hoc
      have HNx : Hid (∀ e w', DoPost W1 B Mp Mc Mn cap os[i] st e w' → (∃ r, e = .returned (.bool r)) ∧ ∃ (s' : Bs) (nw : List K), BA w' B Mp Mc Mn cap s'.la s'.fl s'.pins s'.all nw ∧ Below w.heap.size w w' ∧ CsAt w'.heap.size w' la1 (sgs X) ∧ ∀ x ∈ X, KIn x.k ∧ (x.p, x.s) = see s'.all x.k x.b) := fun e w' ⟨r, s', nw', h1, h2, h3, h4⟩ => by
        refine ⟨⟨r, h1⟩, s', nw', h3, HB1.out.trans (h4.below HB1.out.size HSb.out), ?_, fun x hx => ⟨(HXk.out.2 x hx).2.1, (HXk.out.2 x hx).after HLs.out.1 HLs.out.2 h2⟩⟩
        have h5 : SgR wr.heap.size w' (.slice la1 lm lc) X := rowSame HRow.out (fun g hg => by
          obtain ⟨cur, hcur⟩ := rowBlock HRow.out hg
          exact h4.block g (blk_lt hcur) (HA1.out.notC hcur (by decide)))
        exact (rowCs h5).2.1
      generalize os[i] = o at *
      obtain ⟨kind, oa, occ, oL, m, k1, k2⟩ := o
      simp only at c0 c1 c2 c3 c4 HCk
      simp only [opv] at HDo
      generalize oL.length = ln at *
      clear HRow HA1 HLs HOK
      go_wp2_with fail
      clear c0 c1 c2 c3 c4
      refine HDo.out.mono ?_
      intro e W2 hpost
      obtain ⟨⟨rr, rfl⟩, s', nw', hA2, hB2, hcs2, hok2⟩ := HNx.out e W2 hpost
      have q0 := HCk.out W2 hB2
      have HSt := hidC (fun al => still_any W2 B Mp Mc Mn cap s'.la s'.fl s'.pins s'.all nw' hA2 la1 lm lc X hcs2 HXk.out.1 hlm2 hok2 al)
      have HNy : Hid (∀ W, Below W2.heap.size W2 W → ∃ (st : Bs) (nw : List K), BA W B Mp Mc Mn cap st.la st.fl st.pins st.all nw ∧ Below w.heap.size w W) := fun W hW => ⟨s', nw', hA2.kept hW, hB2.trans (hW.mono hB2.size)⟩
      clear hA2 hB2 hcs2 hok2 hpost HDo HNx HCk HXk
      go_wp2_with fail
      refine (HSt.out _).mono ?_
      rintro e W3 ⟨rfl, hb3⟩
      have HZ := hidC (HNy.out W3 hb3)
      clear hb3 HNy HSt q0
      go_wp2
      exact ⟨⟨i + 1, by omega, by go_num, HZ.out⟩, by simp [intOf]; omega⟩
    · have HX : Hid (SeePost w (.returned (.bool true)) wr) := ⟨rfl, hbw⟩
      clear hA hbw
      go_wp2
      go_ret
      exact HX.out
end Go.Proofs.Ytibdogniiglcjab
/-
  FROM THE READING OF A []api.Key ARGUMENT (OR FIELD) TO ITS KEYS.
-/
namespace Go.Proofs.Ytibdogniiglcjab
open Go.ChangeShapes Go.WideShapes Go.ChangeAt Go.RowKit

theorem cellsKey : Try.prog.cellsOf 38 = 2 := by kernel_rfl
theorem cellsInt' : Try.prog.cellsOf 3 = 1 := by kernel_rfl
theorem cellsInt64' : Try.prog.cellsOf 2 = 1 := by kernel_rfl
theorem bytesKey : Try.prog.bytesOf 38 = 16 := by kernel_rfl
set_option maxRecDepth 100000 in
/-- one element -/
theorem key_of_trod {H : Type} {enc : TypeId × Value → H} {W : World} {fuel : Nat} {a : Addr} {i : Nat} {cs : List Value} {y : DataW H × List MemPlace} (hc : W.cells? 0 (a.add (i * 2)) 2 = some cs)
    (hf : DataW.trod enc Try.prog W 0 (fun _ => true) true fuel 38 cs = some y) :
    ∃ (b off : Nat) (k : K), a.add (i * 2) = ⟨b, off, none⟩ ∧ W.cell? ⟨b, off, none⟩ = some (.int .i64 k.1) ∧ W.cell? ⟨b, off + 1, none⟩ = some (.int .i64 k.2) ∧ In64 k.1 ∧ In64 k.2 := by
  obtain ⟨_, hlen, hcell⟩ := World.cells?_some hc
  obtain ⟨xs, k, hk, hxy, _, hxl, hf⟩ := DataW.trod_struct Try.underlying38 hf
  match xs, hxl, cs, hlen with
  | [y0, y1], _, [v0, v1], _ =>
    have g0 := hf 0 _ rfl
    have g1 := hf 1 _ rfl
    simp [cellsInt', cellsInt64'] at g0 g1
    have e0 := hcell 0 (by omega)
    have e1 := hcell 1 (by omega)
    generalize a.add (i * 2) = ad at *
    obtain ⟨b, off, spot⟩ := ad
    have hspot : spot = none := by
      have h1 : (⟨b, off, spot⟩ : Addr).add 0 = ⟨b, off, spot⟩ := by simp [Addr.add]
      rw [h1] at e0
      exact World.cell?_spot e0
    subst hspot
    rw [Go.WideShapes.add_plain] at e0 e1
    obtain ⟨x0, h0, _, wx0⟩ := DataW.trod_int Try.underlying3 g0
    obtain ⟨x1, h1, _, wx1⟩ := DataW.trod_int Try.underlying2 g1
    simp only [List.cons.injEq, and_true] at h0 h1
    subst h0 h1
    exact ⟨b, off, (x0, x1), rfl, by simpa using e0, by simpa using e1, bounds_i64 wx0, bounds_i64 wx1⟩
theorem cks_of {w : World} {b off : Nat} : ∀ (L : List K) (d : Nat), (∀ i, i < L.length → w.cell? ⟨b, off + (d + i) * 2, none⟩ = some (.int .i64 (kd L i).1) ∧ w.cell? ⟨b, off + (d + i) * 2 + 1, none⟩ = some (.int .i64 (kd L i).2)) →
    ∀ j u, (cks L)[j]? = some u → w.cell? ⟨b, off + d * 2 + j, none⟩ = some u
  | [], _, _, j, u, hu => by simp [cks] at hu
  | k :: L, d, h, 0, u, hu => by
    have := (h 0 (by simp)).1
    simp [cks] at hu
    simpa [kd, hu] using this
  | k :: L, d, h, 1, u, hu => by
    have := (h 0 (by simp)).2
    simp [cks] at hu
    simpa [kd, hu] using this
  | k :: L, d, h, j + 2, u, hu => by
    have ih := cks_of (w := w) (b := b) (off := off) L (d + 1) (fun i hi => by
      have := h (i + 1) (by simp; omega)
      rw [kd_cons_succ, show d + (i + 1) = d + 1 + i by omega] at this
      exact this) j u (by simpa [cks] using hu)
    rw [show off + (d + 1) * 2 + j = off + d * 2 + (j + 2) by omega] at ih
    exact ih
set_option maxRecDepth 100000 in
/-- what the reading of a slice of keys gives -/
theorem keys_of_trod {H : Type} {enc : TypeId × Value → H} {W : World} {fuel : Nat} {cs : List Value} {y : DataW H × List MemPlace}
    (hf : DataW.trod enc Try.prog W 0 (fun _ => true) true fuel 60 cs = some y) :
    ∃ (a : Option Addr) (len cap : Nat) (ks : List K), cs = [.slice a len cap] ∧ (len = ks.length ∧ KeysAt W a ks ∧ (a = none → cap = 0) ∧ len ≤ cap ∧ cap ≤ maxLen ∧ ∀ k ∈ ks, In64 k.1 ∧ In64 k.2) ∧
      (len = 0 ∨ ∃ elems spare, y.1 = .slice elems spare ∧ len ≤ elems.length + spare.length) := by
  rcases Deep.open_slice Try.underlying60 hf with ⟨rfl, rfl⟩ | ⟨a, len, cap, m, n, D, Pl, rfl, hb, hl, hm, hmm, rfl, hx⟩
  · exact ⟨none, 0, 0, [], rfl, ⟨rfl, .inl rfl, fun _ => rfl, Nat.le_refl _, Nat.zero_le _, by simp⟩, .inl rfl⟩
  · have hle : len ≤ m := by rw [hmm]; simpa using hl
    rw [cellsKey] at hx
    obtain ⟨Z, hZ⟩ := Deep.choose_lt (α := K) (n := len) (p := fun i k => ∃ b off, a.add (i * 2) = ⟨b, off, none⟩ ∧ W.cell? ⟨b, off, none⟩ = some (.int .i64 k.1) ∧ W.cell? ⟨b, off + 1, none⟩ = some (.int .i64 k.2) ∧ In64 k.1 ∧ In64 k.2) (fun i hi => by
      obtain ⟨cs', h1, h2⟩ := hx i (by omega)
      obtain ⟨b, off, k, h3⟩ := key_of_trod h1 h2
      exact ⟨k, b, off, h3⟩)
    refine ⟨some a, len, cap, (List.range len).map Z, rfl, ⟨by simp, ?_, by simp, by simpa using hl, hm, ?_⟩, .inr ⟨_, _, rfl, ?_⟩⟩
    · by_cases h0 : len = 0
      · left; subst h0; rfl
      · right
        obtain ⟨b, off, h1, _⟩ := hZ 0 (by omega)
        have h1' : a = ⟨b, off, none⟩ := by simpa [Addr.add] using h1
        subst h1'
        refine ⟨b, off, rfl, fun j u hu => ?_⟩
        have := cks_of (w := W) (b := b) (off := off) ((List.range len).map Z) 0 (fun i hi => by
          have hi' : i < len := by simpa using hi
          obtain ⟨b', off', h2, h3, h4, _⟩ := hZ i hi'
          rw [Go.WideShapes.add_plain] at h2
          simp only [Addr.mk.injEq, and_true] at h2
          obtain ⟨rfl, rfl⟩ := h2
          have e : kd ((List.range len).map Z) i = Z i := by simp [kd, List.getD_eq_getElem?_getD, hi']
          rw [e, Nat.zero_add]
          exact ⟨h3, h4⟩) j u hu
        simpa using this
    · intro k hk
      obtain ⟨i, hi, rfl⟩ := List.mem_map.1 hk
      obtain ⟨_, _, _, _, _, h5⟩ := hZ i (by simpa using hi)
      exact h5
    · simp
theorem keys_of_sized {H : Type} {ts : List TypeId} {ds : List (DataW H)} {j len : Nat} {d : DataW H} (h : (DataW.weightsEach Try.prog ts ds).all (· ≤ reachBytes) = true) (ht : ts[j]? = some 60) (hd : ds[j]? = some d)
    (hx : len = 0 ∨ ∃ elems spare, d = .slice elems spare ∧ len ≤ elems.length + spare.length) : len * 16 ≤ 140737488351232 := by
  rcases hx with h0 | ⟨elems, spare, rfl, hl⟩
  · omega
  · have h1 := sized_slice h ht hd Try.underlying60
    rw [bytesKey] at h1
    simp only [reachBytes] at h1
    omega

end Go.Proofs.Ytibdogniiglcjab
/-
  FROM THE READING OF A []preludelaw10.Op ARGUMENT TO ITS CALLS.
-/
namespace Go.Proofs.Ytibdogniiglcjab
open Go.ChangeShapes Go.WideShapes Go.ChangeAt Go.RowKit

theorem cellsSKb : Try.prog.cellsOf 60 = 1 := by kernel_rfl
theorem cellsSSKb : Try.prog.cellsOf 36 = 1 := by kernel_rfl
theorem bytesSKb : Try.prog.bytesOf 60 = 24 := by kernel_rfl
theorem cellsOpb : Try.prog.cellsOf 40 = 5 := by kernel_rfl
theorem bytesOpb : Try.prog.bytesOf 40 = 56 := by kernel_rfl
theorem cell_ltb {W : World} {b o : Nat} {v : Value} (h : W.cell? ⟨b, o, none⟩ = some v) : b < W.heap.size := by
  by_cases hb : b < W.heap.size
  · exact hb
  · have : W.heap[b]? = none := by simp; omega
    simp [World.cell?, this] at h
theorem wAll_mem {H : Type} {P : Program} {e : TypeId} : ∀ {ds : List (DataW H)} {d : DataW H}, d ∈ ds → ∀ z ∈ d.weights P e, z ∈ DataW.weightsAll P e ds
  | d0 :: ds, d, hd, z, hz => by
    simp only [DataW.weightsAll, List.mem_append]
    rcases List.mem_cons.1 hd with rfl | h
    · exact .inl hz
    · exact .inr (wAll_mem h z hz)
set_option maxRecDepth 100000 in
theorem lists_of_trod {H : Type} {enc : TypeId × Value → H} {W : World} {fuel : Nat} {cs : List Value} {y : DataW H × List MemPlace}
    (hf : DataW.trod enc Try.prog W 0 (fun _ => true) true fuel 36 cs = some y) :
    ∃ (a : Option Addr) (len cap : Nat) (L : List (List K)), cs = [.slice a len cap] ∧ len = L.length ∧ (∀ s ∈ L, ∀ k ∈ s, KIn k) ∧ RWs (fun k => W.heap.size ≤ k) W a L ∧
      ((∀ z ∈ y.1.weights Try.prog 36, z ≤ reachBytes) → len * 24 ≤ reachBytes ∧ ∀ s ∈ L, s.length * 16 ≤ reachBytes) := by
  rcases Deep.open_slice Try.underlying36 hf with ⟨rfl, rfl⟩ | ⟨a, len, cap, m, n, D, Pl, rfl, hb, hl, hm, hmm, rfl, hx⟩
  · exact ⟨none, 0, 0, [], rfl, rfl, by simp, fun i hi => by simp at hi, fun _ => ⟨by simp, by simp⟩⟩
  · have hle : len ≤ m := by rw [hmm]; simpa using hl
    rw [cellsSKb] at hx
    obtain ⟨Z, hZ⟩ := Deep.choose_lt (α := List K × Option Addr × Nat) (n := len) (p := fun i x => ∃ b off, a.add (i * 1) = ⟨b, off, none⟩ ∧ W.cell? ⟨b, off, none⟩ = some (.slice x.2.1 x.1.length x.2.2) ∧ KeysAt W x.2.1 x.1 ∧ (∀ k ∈ x.1, KIn k) ∧ ((∀ z ∈ (D i).weights Try.prog 60, z ≤ reachBytes) → x.1.length * 16 ≤ reachBytes)) (fun i hi => by
      obtain ⟨cs', h1, h2⟩ := hx i (by omega)
      obtain ⟨_, hlen, hcell⟩ := World.cells?_some h1
      obtain ⟨sa, sn, sc, ks, rfl, ⟨rfl, hat, _, _, _, hin⟩, hz⟩ := keys_of_trod h2
      have e0 := hcell 0 (by simp)
      generalize a.add (i * 1) = ad at *
      obtain ⟨b, off, spot⟩ := ad
      have hspot : spot = none := by
        have h1 : (⟨b, off, spot⟩ : Addr).add 0 = ⟨b, off, spot⟩ := by simp [Addr.add]
        rw [h1] at e0
        exact World.cell?_spot e0
      subst hspot
      rw [Go.WideShapes.add_plain] at e0
      refine ⟨(ks, sa, sc), b, off, rfl, by simpa using e0, hat, fun k hk => hin k hk, fun hw => ?_⟩
      rcases hz with h0 | ⟨elems, spare, e, hle⟩
      · show ks.length * 16 ≤ _
        rw [h0]
        simp
      · have z2 := hw ((elems.length + spare.length) * 16) (by
          have e' : D i = .slice elems spare := e
          rw [e']
          simp [DataW.weights, Try.underlying60, bytesKey])
        show ks.length * 16 ≤ _
        omega)
    have hget : ∀ i (hi : i < ((List.range len).map fun i => (Z i).1).length), i < len ∧ ((List.range len).map fun i => (Z i).1)[i] = (Z i).1 := fun i hi => ⟨by simpa using hi, by simp⟩
    refine ⟨some a, len, cap, (List.range len).map (fun i => (Z i).1), rfl, by simp, fun s hs => ?_, fun i hi => ?_, fun hz => ⟨?_, fun s hs => ?_⟩⟩
    · obtain ⟨i, hi, rfl⟩ := List.mem_map.1 hs
      obtain ⟨_, _, _, _, _, h5, _⟩ := hZ i (by simpa using hi)
      exact h5
    · obtain ⟨hi', e⟩ := hget i hi
      rw [e]
      obtain ⟨b, off, h1, _⟩ := hZ 0 (by omega)
      have h1' : a = ⟨b, off, none⟩ := by simpa [Addr.add] using h1
      subst h1'
      obtain ⟨b', off', h2, h3, h4, _⟩ := hZ i hi'
      rw [Go.WideShapes.add_plain, Nat.mul_one] at h2
      simp only [Addr.mk.injEq, and_true] at h2
      obtain ⟨rfl, rfl⟩ := h2
      have hlt := cell_ltb h3
      refine ⟨b, off, (Z i).2.1, (Z i).2.2, rfl, by omega, hlt, h3, h4, fun ad hne hsa => ?_⟩
      rcases h4 with h0 | ⟨kb, ko, e2, hc⟩
      · exact absurd h0 hne
      · rw [hsa] at e2
        cases e2
        obtain ⟨k, l, hkl⟩ : ∃ k l, (Z i).1 = k :: l := by
          cases hz : (Z i).1 with
          | nil => exact absurd hz hne
          | cons k l => exact ⟨k, l, rfl⟩
        have := hc 0 (.int .i64 k.1) (by rw [hkl]; simp [cks])
        have := cell_ltb this
        exact ⟨by show ¬ W.heap.size ≤ kb; omega, this⟩
    · simp only [DataW.weights, Try.underlying36, bytesSKb, List.mem_cons, List.mem_append] at hz
      have := hz _ (.inl rfl)
      simp at this
      omega
    · obtain ⟨i, hi, rfl⟩ := List.mem_map.1 hs
      have hi' : i < len := by simpa using hi
      obtain ⟨_, _, _, _, _, _, h6⟩ := hZ i hi'
      simp only [DataW.weights, Try.underlying36, bytesSKb, List.mem_cons, List.mem_append] at hz
      exact h6 (fun z hzz => hz z (.inr (.inl (wAll_mem (ds := (List.range len).map D) (List.mem_map.2 ⟨i, by simpa using hi', rfl⟩) z hzz))))
def SizedO {H : Type} (d : DataW H) : Prop := ∀ z ∈ d.weights Try.prog 40, z ≤ reachBytes
def OcB (o : Oc) : Prop := o.L.length * 24 ≤ reachBytes ∧ ∀ s ∈ o.L, s.length * 16 ≤ reachBytes
def OcI (o : Oc) : Prop := (∀ s ∈ o.L, ∀ k ∈ s, KIn k) ∧ In64 o.m ∧ In64 o.kind ∧ KIn o.k
set_option maxRecDepth 100000 in
theorem op_of_trod {H : Type} {enc : TypeId × Value → H} {W : World} {fuel : Nat} {a : Addr} {i : Nat} {cs : List Value} {y : DataW H × List MemPlace} (hc : W.cells? 0 (a.add (i * 5)) 5 = some cs)
    (hf : DataW.trod enc Try.prog W 0 (fun _ => true) true fuel 40 cs = some y) :
    ∃ (b off : Nat) (o : Oc), a.add (i * 5) = ⟨b, off, none⟩ ∧ (W.cell? ⟨b, off, none⟩ = some (.int .i64 o.kind) ∧ W.cell? ⟨b, off + 1, none⟩ = some (.slice o.a o.L.length o.c) ∧ W.cell? ⟨b, off + 2, none⟩ = some (.int .i64 o.m) ∧ W.cell? ⟨b, off + 3, none⟩ = some (.int .i64 o.k.1) ∧ W.cell? ⟨b, off + 4, none⟩ = some (.int .i64 o.k.2)) ∧
      RWs (fun k => W.heap.size ≤ k) W o.a o.L ∧ OcI o ∧ (SizedO y.1 → OcB o) := by
  obtain ⟨_, hlen, hcell⟩ := World.cells?_some hc
  obtain ⟨xs, k, hk, rfl, _, hxl, hf⟩ := DataW.trod_struct Try.underlying40 hf
  match xs, hxl, cs, hlen with
  | [y0, y1, y2, y3], _, [v0, v1, v2, v3, v4], _ =>
    have g0 := hf 0 _ rfl
    have g1 := hf 1 _ rfl
    have g2 := hf 2 _ rfl
    have g3 := hf 3 _ rfl
    simp [cellsInt', cellsSSKb, cellsKey] at g0 g1 g2 g3
    generalize a.add (i * 5) = ad at *
    obtain ⟨b, off, spot⟩ := ad
    have hspot : spot = none := by
      have e0 := hcell 0 (by omega)
      have h1 : (⟨b, off, spot⟩ : Addr).add 0 = ⟨b, off, spot⟩ := by simp [Addr.add]
      rw [h1] at e0
      exact World.cell?_spot e0
    subst hspot
    obtain ⟨x0, h0, _, wx0⟩ := DataW.trod_int Try.underlying3 g0
    obtain ⟨wa, wn, wc, L, hW, hl, hin, hrw, hz⟩ := lists_of_trod g1
    obtain ⟨x2, h2, _, wx2⟩ := DataW.trod_int Try.underlying3 g2
    obtain ⟨zs, k', hk', _, _, hzl, hf3⟩ := DataW.trod_struct Try.underlying38 g3
    match zs, hzl with
    | [z0, z1], _ =>
      have f0 := hf3 0 _ rfl
      have f1 := hf3 1 _ rfl
      simp [cellsInt', cellsInt64'] at f0 f1
      obtain ⟨x3, h3, _, wx3⟩ := DataW.trod_int Try.underlying3 f0
      obtain ⟨x4, h4, _, wx4⟩ := DataW.trod_int Try.underlying2 f1
      simp only [List.cons.injEq, and_true] at h0 hW h2 h3 h4
      subst h0 hW h2 h3 h4 hl
      have e : ∀ j u, ([.int .i64 x0, .slice wa L.length wc, .int .i64 x2, .int .i64 x3, .int .i64 x4] : List Value)[j]? = some u → W.cell? ⟨b, off + j, none⟩ = some u := fun j u hu => by
        have hj : j < 5 := (List.getElem?_eq_some_iff.1 hu).1
        have := hcell j hj
        rw [Go.WideShapes.add_plain] at this
        rw [this]
        exact hu
      refine ⟨b, off, ⟨x0, wa, wc, L, x2, (x3, x4)⟩, rfl, ⟨e 0 _ rfl, e 1 _ rfl, e 2 _ rfl, e 3 _ rfl, e 4 _ rfl⟩, hrw, ⟨hin, bounds_i64 wx2, bounds_i64 wx0, bounds_i64 wx3, bounds_i64 wx4⟩, fun hs => ?_⟩
      refine hz (fun z hzz => hs z ?_)
      simp only [DataW.weights, Try.underlying40]
      exact DataW.weights_mem_each (j := 1) (t := 36) (d := y1.1) rfl rfl _ hzz
set_option maxRecDepth 100000 in
/-- what the reading of a script gives -/
theorem ops_of_trod {H : Type} {enc : TypeId × Value → H} {W : World} {fuel : Nat} {cs : List Value} {y : DataW H × List MemPlace}
    (hf : DataW.trod enc Try.prog W 0 (fun _ => true) true fuel 22 cs = some y) :
    ∃ (a : Option Addr) (len cap : Nat) (os : List Oc), cs = [.slice a len cap] ∧ len = os.length ∧ (∀ o ∈ os, OcI o) ∧
      ((∀ z ∈ y.1.weights Try.prog 22, z ≤ reachBytes) → OpsAt (fun k => W.heap.size ≤ k) W a os ∧ len * 56 ≤ reachBytes) := by
  rcases Deep.open_slice Try.underlying22 hf with ⟨rfl, rfl⟩ | ⟨a, len, cap, m, n, D, Pl, rfl, hb, hl, hm, hmm, rfl, hx⟩
  · exact ⟨none, 0, 0, [], rfl, rfl, by simp, fun _ => ⟨fun i hi => by simp at hi, by simp⟩⟩
  · have hle : len ≤ m := by rw [hmm]; simpa using hl
    have hI : Inhabited Oc := ⟨⟨0, none, 0, [], 0, (0, 0)⟩⟩
    rw [cellsOpb] at hx
    obtain ⟨Z, hZ⟩ := Deep.choose_lt (α := Oc) (n := len) (p := fun i o => ∃ b off, a.add (i * 5) = ⟨b, off, none⟩ ∧ (W.cell? ⟨b, off, none⟩ = some (.int .i64 o.kind) ∧ W.cell? ⟨b, off + 1, none⟩ = some (.slice o.a o.L.length o.c) ∧ W.cell? ⟨b, off + 2, none⟩ = some (.int .i64 o.m) ∧ W.cell? ⟨b, off + 3, none⟩ = some (.int .i64 o.k.1) ∧ W.cell? ⟨b, off + 4, none⟩ = some (.int .i64 o.k.2)) ∧ RWs (fun k => W.heap.size ≤ k) W o.a o.L ∧ OcI o ∧ (SizedO (D i) → OcB o)) (fun i hi => by
      obtain ⟨cs', h1, h2⟩ := hx i (by omega)
      obtain ⟨b, off, o, h3⟩ := op_of_trod h1 h2
      exact ⟨o, b, off, h3⟩)
    refine ⟨some a, len, cap, (List.range len).map Z, rfl, by simp, fun o ho => ?_, fun hz => ?_⟩
    · obtain ⟨i, hi, rfl⟩ := List.mem_map.1 ho
      obtain ⟨_, _, _, _, _, h5, _⟩ := hZ i (by simpa using hi)
      exact h5
    · simp only [DataW.weights, Try.underlying22, bytesOpb, List.mem_cons, List.mem_append] at hz
      refine ⟨fun i hi => ?_, ?_⟩
      · have hi' : i < len := by simpa using hi
        obtain ⟨b, off, h1, _⟩ := hZ 0 (by omega)
        have h1' : a = ⟨b, off, none⟩ := by simpa [Addr.add] using h1
        subst h1'
        obtain ⟨b', off', h2, ⟨d0, d1, d2, d3, d4⟩, h4, _, h6⟩ := hZ i hi'
        rw [Go.WideShapes.add_plain] at h2
        simp only [Addr.mk.injEq, and_true] at h2
        obtain ⟨rfl, rfl⟩ := h2
        have hB := h6 (fun z hzz => hz z (.inr (.inl (wAll_mem (ds := (List.range len).map D) (List.mem_map.2 ⟨i, by simpa using hi', rfl⟩) z hzz))))
        have e : ((List.range len).map Z)[i] = Z i := by simp
        rw [e]
        have hlt := cell_ltb d0
        unfold OcB at hB
        simp only [reachBytes] at hB
        exact ⟨b, off, rfl, by omega, hlt, d0, d1, d2, d3, d4, h4, by omega, fun s hs => by have := hB.2 s hs; omega⟩
      · have := hz _ (.inl rfl)
        simp at this
        omega
end Go.Proofs.Ytibdogniiglcjab
/-
  FROM THE READING OF A preludelaw10.Made ARGUMENT TO ITS SNAPSHOT.
-/
namespace Go.Proofs.Ytibdogniiglcjab
open Go.ChangeShapes Go.WideShapes Go.ChangeAt Go.RowKit

/-- the cells of a list of parts of one length -/
theorem flat_at {α : Type} (f : α → List Value) {sz : Nat} (hl : ∀ x, (f x).length = sz) : ∀ (xs : List α) (j : Nat) (u : Value), (xs.flatMap f)[j]? = some u → ∃ i m, ∃ hi : i < xs.length, j = i * sz + m ∧ m < sz ∧ (f xs[i])[m]? = some u
  | [], j, u, h => by simp at h
  | x :: xs, j, u, h => by
    rw [List.flatMap_cons] at h
    by_cases hj : j < sz
    · rw [List.getElem?_append_left (by rw [hl]; exact hj)] at h
      exact ⟨0, j, by simp, by omega, hj, by simpa using h⟩
    · rw [List.getElem?_append_right (by rw [hl]; omega), hl] at h
      obtain ⟨i, m, hi, e, hm, hu⟩ := flat_at f hl xs (j - sz) u h
      refine ⟨i + 1, m, by simp; omega, ?_, hm, by simpa using hu⟩
      rw [Nat.add_mul]
      omega
set_option maxRecDepth 100000 in
/-- a slice of parts -/
theorem slice_of_trod {H : Type} {enc : TypeId × Value → H} {W : World} {TS TE : TypeId} {sz bt : Nat} {α : Type} [Inhabited α] (f : α → List Value) (hl : ∀ x, (f x).length = sz) (h0 : 0 < sz) (P : α → Prop) (Q : α → Prop)
    (hu : Try.prog.underlying TS = some (.slice TE)) (hc : Try.prog.cellsOf TE = sz) (hbt : Try.prog.bytesOf TE = bt)
    (hel : ∀ fuel cs (y : DataW H × List MemPlace), cs.length = sz → DataW.trod enc Try.prog W 0 (fun _ => true) true fuel TE cs = some y → ∃ x, cs = f x ∧ P x ∧ ((∀ z ∈ y.1.weights Try.prog TE, z ≤ reachBytes) → Q x))
    {fuel : Nat} {cs : List Value} {y : DataW H × List MemPlace} (hf : DataW.trod enc Try.prog W 0 (fun _ => true) true fuel TS cs = some y) :
    ∃ (a : Option Addr) (len cap : Nat) (xs : List α), cs = [.slice a len cap] ∧ len = xs.length ∧ (a = none → cap = 0) ∧ CsAt W.heap.size W a (xs.flatMap f) ∧ (∀ x ∈ xs, P x) ∧
      ((∀ z ∈ y.1.weights Try.prog TS, z ≤ reachBytes) → len * bt ≤ reachBytes ∧ ∀ x ∈ xs, Q x) := by
  rcases Deep.open_slice hu hf with ⟨rfl, rfl⟩ | ⟨a, len, cap, m, n, D, Pl, rfl, hb, hle0, hm, hmm, rfl, hx⟩
  · exact ⟨none, 0, 0, [], rfl, rfl, fun _ => rfl, fun j u h => by simp at h, by simp, fun _ => ⟨by simp, by simp⟩⟩
  · have hle : len ≤ m := by rw [hmm]; simpa using hle0
    rw [hc] at hx
    obtain ⟨Z, hZ⟩ := Deep.choose_lt (α := α) (n := len) (p := fun i x => (∃ b off, a.add (i * sz) = ⟨b, off, none⟩ ∧ ∀ j u, (f x)[j]? = some u → W.cell? ⟨b, off + j, none⟩ = some u) ∧ P x ∧ ((∀ z ∈ (D i).weights Try.prog TE, z ≤ reachBytes) → Q x)) (fun i hi => by
      obtain ⟨cs', h1, h2⟩ := hx i (by omega)
      obtain ⟨_, hlen, hcell⟩ := World.cells?_some h1
      obtain ⟨x, rfl, hP, hQ⟩ := hel _ _ _ hlen h2
      refine ⟨x, ?_, hP, hQ⟩
      generalize a.add (i * sz) = ad at *
      obtain ⟨b, off, spot⟩ := ad
      have hspot : spot = none := by
        have e0 := hcell 0 h0
        have h1 : (⟨b, off, spot⟩ : Addr).add 0 = ⟨b, off, spot⟩ := by simp [Addr.add]
        rw [h1, List.getElem?_eq_getElem (by omega)] at e0
        exact World.cell?_spot e0
      subst hspot
      refine ⟨b, off, rfl, fun j u hu => ?_⟩
      have := hcell j (by rw [← hl x]; exact (List.getElem?_eq_some_iff.1 hu).1)
      rw [Go.WideShapes.add_plain] at this
      rw [this]
      exact hu)
    refine ⟨some a, len, cap, (List.range len).map Z, rfl, by simp, by simp, fun j u hju => ?_, fun x hxm => ?_, fun hz => ⟨?_, fun x hxm => ?_⟩⟩
    · obtain ⟨i, m', hi, rfl, hm', hfu⟩ := flat_at f hl _ _ _ hju
      have hi' : i < len := by simpa using hi
      have e : ((List.range len).map Z)[i] = Z i := by simp
      rw [e] at hfu
      obtain ⟨⟨b, off, h1, _⟩, _⟩ := hZ 0 (by omega)
      have h1' : a = ⟨b, off, none⟩ := by simpa [Addr.add] using h1
      subst h1'
      obtain ⟨⟨b', off', h2, h3⟩, _⟩ := hZ i hi'
      rw [Go.WideShapes.add_plain] at h2
      simp only [Addr.mk.injEq, and_true] at h2
      obtain ⟨rfl, rfl⟩ := h2
      have h4 := h3 _ _ hfu
      exact ⟨b, off, rfl, cell_ltb h4, by rw [← Nat.add_assoc]; exact h4⟩
    · obtain ⟨i, hi, rfl⟩ := List.mem_map.1 hxm
      exact (hZ i (by simpa using hi)).2.1
    · simp only [DataW.weights, hu, hbt, List.mem_cons, List.mem_append] at hz
      have h1 := hz _ (.inl rfl)
      simp only [List.length_map, List.length_range] at h1
      exact Nat.le_trans (Nat.mul_le_mul_right _ (by omega)) h1
    · obtain ⟨i, hi, rfl⟩ := List.mem_map.1 hxm
      have hi' : i < len := by simpa using hi
      simp only [DataW.weights, hu, hbt, List.mem_cons, List.mem_append] at hz
      exact (hZ i hi').2.2 (fun z hzz => hz z (.inr (.inl (wAll_mem (ds := (List.range len).map D) (List.mem_map.2 ⟨i, by simpa using hi', rfl⟩) z hzz))))
theorem cellsPin : Try.prog.cellsOf 72 = 2 := by kernel_rfl
theorem bytesPin : Try.prog.bytesOf 72 = 16 := by kernel_rfl
theorem cellsStamp : Try.prog.cellsOf 112 = 4 := by kernel_rfl
theorem bytesStamp : Try.prog.bytesOf 112 = 32 := by kernel_rfl
theorem cellsCell : Try.prog.cellsOf 110 = 2 := by kernel_rfl
theorem cellsBool' : Try.prog.cellsOf 4 = 1 := by kernel_rfl
theorem cellsChain : Try.prog.cellsOf 75 = 3 := by kernel_rfl
theorem bytesChain : Try.prog.bytesOf 75 = 40 := by kernel_rfl
theorem cellsSStamp : Try.prog.cellsOf 73 = 1 := by kernel_rfl
theorem cellsSPin : Try.prog.cellsOf 24 = 1 := by kernel_rfl
theorem cellsSChain : Try.prog.cellsOf 25 = 1 := by kernel_rfl
theorem cellsSnap : Try.prog.cellsOf 27 = 3 := by kernel_rfl
theorem cellsMade : Try.prog.cellsOf 29 = 5 := by kernel_rfl
def pnf (p : Int × Int) : List Value := [.int .i64 p.1, .int .i64 p.2]
def scf (x : Stp) : List Value := [.int .i64 x.b, .int .i64 x.i, .bool x.s, .int .i64 x.v]
def ccf (x : Ch) : List Value := [.int .i64 x.k.1, .int .i64 x.k.2, .slice x.a x.l.length x.c]
theorem pnf_flat : ∀ l : List (Int × Int), l.flatMap pnf = pns l
  | [] => rfl
  | x :: l => by simp [pnf, pns, pnf_flat l]
theorem scf_flat : ∀ l : List Stp, l.flatMap scf = scs l
  | [] => rfl
  | x :: l => by simp [scf, scs, scf_flat l]
theorem ccf_flat : ∀ l : List Ch, l.flatMap ccf = ccs l
  | [] => rfl
  | x :: l => by simp [ccf, ccs, ccf_flat l]
section
variable {H : Type} {enc : TypeId × Value → H} {W : World}
set_option maxRecDepth 100000 in
theorem pins_of_trod {fuel : Nat} {cs : List Value} {y : DataW H × List MemPlace} (hf : DataW.trod enc Try.prog W 0 (fun _ => true) true fuel 24 cs = some y) :
    ∃ (a : Option Addr) (len cap : Nat) (xs : List (Int × Int)), cs = [.slice a len cap] ∧ len = xs.length ∧ (a = none → cap = 0) ∧ CsAt W.heap.size W a (pns xs) ∧ (∀ x ∈ xs, In64 x.1 ∧ In64 x.2) ∧
      ((∀ z ∈ y.1.weights Try.prog 24, z ≤ reachBytes) → len * 16 ≤ reachBytes) := by
  obtain ⟨a, len, cap, xs, h1, h2, h3, h4, h5, h6⟩ := slice_of_trod pnf (sz := 2) (fun _ => rfl) (by omega) (fun x => In64 x.1 ∧ In64 x.2) (fun _ => True) Try.underlying24 cellsPin bytesPin (fun fuel cs y hl hf => by
    obtain ⟨ys, k, hk, hxy, _, hxl, hf⟩ := DataW.trod_struct Try.underlying72 hf
    match ys, hxl, cs, hl with
    | [y0, y1], _, [v0, v1], _ =>
      have g0 := hf 0 _ rfl
      have g1 := hf 1 _ rfl
      simp [cellsInt'] at g0 g1
      obtain ⟨x0, h0, _, wx0⟩ := DataW.trod_int Try.underlying3 g0
      obtain ⟨x1, h1, _, wx1⟩ := DataW.trod_int Try.underlying3 g1
      simp only [List.cons.injEq, and_true] at h0 h1
      subst h0 h1
      exact ⟨(x0, x1), rfl, ⟨bounds_i64 wx0, bounds_i64 wx1⟩, fun _ => trivial⟩) hf
  rw [pnf_flat] at h4
  exact ⟨a, len, cap, xs, h1, h2, h3, h4, h5, fun hz => (h6 hz).1⟩
set_option maxRecDepth 100000 in
theorem stamps_of_trod {fuel : Nat} {cs : List Value} {y : DataW H × List MemPlace} (hf : DataW.trod enc Try.prog W 0 (fun _ => true) true fuel 73 cs = some y) :
    ∃ (a : Option Addr) (len cap : Nat) (xs : List Stp), cs = [.slice a len cap] ∧ len = xs.length ∧ (a = none → cap = 0) ∧ CsAt W.heap.size W a (scs xs) ∧ (∀ x ∈ xs, In64 x.b ∧ In64 x.i) ∧
      ((∀ z ∈ y.1.weights Try.prog 73, z ≤ reachBytes) → len * 32 ≤ reachBytes) := by
  have hI : Inhabited Stp := ⟨⟨0, 0, false, 0⟩⟩
  obtain ⟨a, len, cap, xs, h1, h2, h3, h4, h5, h6⟩ := slice_of_trod scf (sz := 4) (fun _ => rfl) (by omega) (fun x => In64 x.b ∧ In64 x.i) (fun _ => True) Try.underlying73 cellsStamp bytesStamp (fun fuel cs y hl hf => by
    obtain ⟨ys, k, hk, hxy, _, hxl, hf⟩ := DataW.trod_struct Try.underlying112 hf
    match ys, hxl, cs, hl with
    | [y0, y1, y2], _, [v0, v1, v2, v3], _ =>
      have g0 := hf 0 _ rfl
      have g1 := hf 1 _ rfl
      have g2 := hf 2 _ rfl
      simp [cellsInt', cellsCell] at g0 g1 g2
      obtain ⟨x0, h0, _, wx0⟩ := DataW.trod_int Try.underlying3 g0
      obtain ⟨x1, h1, _, wx1⟩ := DataW.trod_int Try.underlying3 g1
      obtain ⟨zs, k', hk', _, _, hzl, hf2⟩ := DataW.trod_struct Try.underlying110 g2
      match zs, hzl with
      | [z0, z1], _ =>
        have f0 := hf2 0 _ rfl
        have f1 := hf2 1 _ rfl
        simp [cellsBool', cellsInt64'] at f0 f1
        obtain ⟨x2, h2, _⟩ := DataW.trod_bool Try.underlying4 f0
        obtain ⟨x3, h3, _, wx3⟩ := DataW.trod_int Try.underlying2 f1
        simp only [List.cons.injEq, and_true] at h0 h1 h2 h3
        subst h0 h1 h2 h3
        exact ⟨⟨x0, x1, x2, x3⟩, rfl, ⟨bounds_i64 wx0, bounds_i64 wx1⟩, fun _ => trivial⟩) hf
  rw [scf_flat] at h4
  exact ⟨a, len, cap, xs, h1, h2, h3, h4, h5, fun hz => (h6 hz).1⟩
set_option maxRecDepth 100000 in
theorem chains_of_trod {fuel : Nat} {cs : List Value} {y : DataW H × List MemPlace} (hf : DataW.trod enc Try.prog W 0 (fun _ => true) true fuel 25 cs = some y) :
    ∃ (a : Option Addr) (len cap : Nat) (xs : List Ch), cs = [.slice a len cap] ∧ len = xs.length ∧ (a = none → cap = 0) ∧ CsAt W.heap.size W a (ccs xs) ∧ (∀ x ∈ xs, CsAt W.heap.size W x.a (scs x.l) ∧ (x.a = none → x.c = 0) ∧ KIn x.k ∧ ∀ v ∈ x.l, In64 v.b ∧ In64 v.i) ∧
      ((∀ z ∈ y.1.weights Try.prog 25, z ≤ reachBytes) → len * 40 ≤ reachBytes ∧ ∀ x ∈ xs, x.l.length * 32 ≤ reachBytes) := by
  have hI : Inhabited Ch := ⟨⟨(0, 0), none, 0, []⟩⟩
  obtain ⟨a, len, cap, xs, h1, h2, h3, h4, h5, h6⟩ := slice_of_trod ccf (sz := 3) (fun _ => rfl) (by omega) (fun x => CsAt W.heap.size W x.a (scs x.l) ∧ (x.a = none → x.c = 0) ∧ KIn x.k ∧ ∀ v ∈ x.l, In64 v.b ∧ In64 v.i) (fun x => x.l.length * 32 ≤ reachBytes) Try.underlying25 cellsChain bytesChain (fun fuel cs y hl hf => by
    obtain ⟨ys, k, hk, hxy, _, hxl, hf⟩ := DataW.trod_struct Try.underlying75 hf
    match ys, hxl, cs, hl with
    | [y0, y1], _, [v0, v1, v2], _ =>
      have g0 := hf 0 _ rfl
      have g1 := hf 1 _ rfl
      simp [cellsKey, cellsSStamp] at g0 g1
      obtain ⟨sa, sn, sc, l, hS, hsn, hs0, hsc, hsi, hsz⟩ := stamps_of_trod g1
      obtain ⟨zs, k', hk', _, _, hzl, hf2⟩ := DataW.trod_struct Try.underlying38 g0
      match zs, hzl with
      | [z0, z1], _ =>
        have f0 := hf2 0 _ rfl
        have f1 := hf2 1 _ rfl
        simp [cellsInt', cellsInt64'] at f0 f1
        obtain ⟨x0, h0, _, wx0⟩ := DataW.trod_int Try.underlying3 f0
        obtain ⟨x1, h1, _, wx1⟩ := DataW.trod_int Try.underlying2 f1
        simp only [List.cons.injEq, and_true] at h0 h1 hS
        subst h0 h1 hS hsn
        refine ⟨⟨(x0, x1), sa, sc, l⟩, rfl, ⟨hsc, hs0, ⟨bounds_i64 wx0, bounds_i64 wx1⟩, hsi⟩, fun hz => hsz (fun z hzz => hz z ?_)⟩
        rw [hxy]
        simp only [DataW.weights, Try.underlying75]
        exact DataW.weights_mem_each (j := 1) (t := 73) (d := y1.1) rfl rfl _ hzz) hf
  rw [ccf_flat] at h4
  exact ⟨a, len, cap, xs, h1, h2, h3, h4, h5, h6⟩
theorem array5 {a : Array Value} (h : a.size = 5) : ∃ c0 c1 c2 c3 c4, a = #[c0, c1, c2, c3, c4] := by
  match a, h with
  | ⟨[c0, c1, c2, c3, c4]⟩, _ => exact ⟨c0, c1, c2, c3, c4, rfl⟩
set_option maxRecDepth 100000 in
/-- a Made -/
theorem made_of_trod {r : Reach} {b0 : Nat} {v : Value} {d : DataW H} {q : List MemPlace} (hv : Value.okWide Try.prog W r b0 29 v)
    (h : DataW.Trod enc Try.prog W 0 (fun _ => true) true 29 v d q) :
    ∃ (cap : Int) (rs : Bool) (s : Sn), v = mdv cap rs s ∧ SnAt W.heap.size W s ∧ ((∀ z ∈ d.weights Try.prog 29, z ≤ reachBytes) → SnIn s) := by
  obtain ⟨cs, rfl, hsz⟩ := okWide_struct Try.underlying29 hv
  obtain ⟨k0, k1, k2, k3, k4, rfl⟩ := array5 (hsz.trans cellsMade)
  obtain ⟨fuel, hf⟩ := h
  obtain ⟨xs, k, hk, hxy, _, hxl, hf⟩ := DataW.trod_struct Try.underlying29 (by simpa [Value.cells] using hf)
  match xs, hxl with
  | [y0, y1, y2], _ =>
    have g0 := hf 0 _ rfl
    have g1 := hf 1 _ rfl
    have g2 := hf 2 _ rfl
    simp [cellsInt', cellsBool', cellsSnap] at g0 g1 g2
    obtain ⟨cap, e0, _, _⟩ := DataW.trod_int Try.underlying3 g0
    obtain ⟨rs, e1, _⟩ := DataW.trod_bool Try.underlying4 g1
    obtain ⟨zs, k', hk', hzy, _, hzl, hf2⟩ := DataW.trod_struct Try.underlying27 g2
    match zs, hzl with
    | [z0, z1, z2], _ =>
      have f0 := hf2 0 _ rfl
      have f1 := hf2 1 _ rfl
      have f2 := hf2 2 _ rfl
      simp [cellsInt', cellsSPin, cellsSChain] at f0 f1 f2
      obtain ⟨la, e2, _, wl⟩ := DataW.trod_int Try.underlying3 f0
      obtain ⟨pa, pn, pc, pins, e3, hpn, hp0, hpc, hpi, hpz⟩ := pins_of_trod f1
      obtain ⟨ca, cn, cc, chs, e4, hcn, hc0, hcc, hci, hcz⟩ := chains_of_trod f2
      simp only [List.cons.injEq, and_true] at e0 e1 e2 e3 e4
      subst e0 e1 e2 e3 e4 hpn hcn
      have hd : d = (DataW.agg [y0.1, y1.1, y2.1]) := by simpa using congrArg Prod.fst hxy
      refine ⟨cap, rs, ⟨la, pa, pc, pins, ca, cc, chs⟩, rfl, ⟨hpc, hcc, fun c hc => (hci c hc).1, hp0, fun c hc => (hci c hc).2.1⟩, fun hz => ?_⟩
      have hz2 : ∀ z ∈ y2.1.weights Try.prog 27, z ≤ reachBytes := fun z hzz => hz z (by
        rw [hd]
        simp only [DataW.weights, Try.underlying29]
        exact DataW.weights_mem_each (j := 2) (t := 27) (d := y2.1) rfl rfl _ hzz)
      have hp1 := hpz (fun z hzz => hz2 z (by
        rw [hzy]
        simp only [DataW.weights, Try.underlying27]
        exact DataW.weights_mem_each (j := 1) (t := 24) (d := z1.1) rfl rfl _ hzz))
      have hc1 := hcz (fun z hzz => hz2 z (by
        rw [hzy]
        simp only [DataW.weights, Try.underlying27]
        exact DataW.weights_mem_each (j := 2) (t := 25) (d := z2.1) rfl rfl _ hzz))
      simp only [reachBytes] at hp1 hc1
      exact ⟨by show pins.length ≤ _; omega, by show chs.length ≤ _; omega, fun c hc => by have := hc1.2 c hc; omega, hpi, fun c hc => (hci c hc).2.2, bounds_i64 wl⟩
end
/-- a script that is nil has no room -/
theorem ops_nil {H : Type} {enc : TypeId × Value → H} {W : World} {fuel : Nat} {a : Option Addr} {len cap : Nat} {y : DataW H × List MemPlace}
    (hf : DataW.trod enc Try.prog W 0 (fun _ => true) true fuel 22 [.slice a len cap] = some y) : a = none → cap = 0 := by
  rcases Deep.open_slice Try.underlying22 hf with ⟨h1, _⟩ | ⟨a', len', cap', m, n, D, Pl, h1, _⟩
  · simp at h1; intro _; exact h1.2.2
  · simp at h1; intro e; rw [h1.1] at e; cases e
end Go.Proofs.Ytibdogniiglcjab
/-
  BookSees: THE ROW.
-/
namespace Go.Proofs.Ytibdogniiglcjab.bookSees
open Go.ChangeShapes Go.WideShapes Go.ChangeAt Go.RowKit

theorem weights_at {H : Type} {ts : List TypeId} {ds : List (DataW H)} {j : Nat} {t : TypeId} {d : DataW H} (h : (DataW.weightsEach Try.prog ts ds).all (· ≤ reachBytes) = true) (ht : ts[j]? = some t) (hd : ds[j]? = some d) : ∀ z ∈ d.weights Try.prog t, z ≤ reachBytes := fun z hz => by
  have := List.all_eq_true.1 h _ (DataW.weights_mem_each ht hd z hz)
  simpa using this
theorem own : ownKnob Try.prog.godebug = none := by kernel_rfl
theorem laidOut : laidOutB Try.prog = true := by kernel_rfl

set_option maxRecDepth 100000 in
theorem lifted (os : Os) (started : os.Started) (H : Type) (enc : TypeId × Value → H) :
    ReturnsInHanded {} Try.checked os 4 .any (Rows.bookSeesSpec.pre6 enc Try.prog Try.f4 Rows.bookSeesRow.domain false) (Rows.bookSeesSpec.post enc Try.prog Try.f4 false true false false) := by
  refine returnsInHanded_of_change_sized (C := Try.checked) own started (by kernel_rfl) Try.func4
    (ChangeSpec.witness6 (enc := enc) (C := Try.checked) false ⟨#[], #[.agg #[.int .i64 0, .bool false, .int .i64 0, .slice none 0 0, .slice none 0 0], .slice none 0 0], []⟩ 8 (by kernel_rfl) (by kernel_rfl) (by kernel_rfl) (by kernel_rfl)) ?_
  intro W base args ds gs before hval0 hW hcnd hsz0 _
  have hval : ∀ (j : Nat) t v, Try.f4.params[j]? = some t → args[j]? = some v → Value.okWide Try.prog W .any base t v := hval0
  have hW' := hW
  obtain ⟨p, q, hA0, hV, rfl, hfz, hnd⟩ := hW
  have hA : DataW.TrodAll enc Try.prog W 0 (fun _ => true) true Try.f4.params.toList args.toList ds p := hA0
  have hsz0 : (DataW.weightsEach Try.prog (Try.f4.params.toList ++ Rows.bookSeesSpec.plain.varTypes Try.prog) (ds ++ gs)).all (· ≤ reachBytes) = true := hsz0
  rw [Try.params4] at hA hval hsz0
  obtain ⟨v0, vs0, d0, ds0, p0, q0, hargs, rfl, rfl, h0, r0⟩ := trodAll_cons hA
  obtain ⟨v1, vs1, d1, ds1, p1, q1, rfl, rfl, rfl, h1, r1⟩ := trodAll_cons r0
  obtain ⟨rfl, rfl, rfl⟩ := trodAll_nil r1
  obtain rfl : args = #[v0, v1] := by cases args; simp_all
  obtain ⟨rfl, rfl⟩ := trodVars_none hV
  have k0 := h0
  have lt0 : ∀ x ∈ p0, x.block < W.heap.size := by obtain ⟨m, hm⟩ := k0; exact DataW.trod_lt m _ _ _ hm
  obtain ⟨cap_0, rs_0, s_0, rfl, hs_0, hx0⟩ := made_of_trod (hval 0 29 v0 rfl rfl) h0
  have hsi_0 := hx0 (weights_at hsz0 (j := 0) rfl rfl)
  obtain ⟨a_1, len_1, cap_1, rfl⟩ := okWide_slice Try.underlying22 (hval 1 22 v1 rfl rfl)
  have k1 := h1
  have lt1 : ∀ x ∈ p1, x.block < W.heap.size := by obtain ⟨m, hm⟩ := k1; exact DataW.trod_lt m _ _ _ hm
  obtain ⟨fuel1, hf1⟩ := h1
  obtain ⟨a1', len1', cap1', os_1, hcs1, hn_1, hin_1, hx1⟩ := ops_of_trod hf1
  simp [Value.cells] at hcs1
  obtain ⟨rfl, rfl, rfl⟩ := hcs1
  obtain ⟨hl_1, hr_1⟩ := hx1 (weights_at hsz0 (j := 1) rfl rfl)
  simp only [reachBytes] at hr_1
  clear hA0 hval0
  refine (lawBkSees W cap_0 rs_0 s_0 hs_0 hsi_0 a_1 len_1 cap_1 os_1 hn_1 hl_1 hin_1 (by omega)).mono fun e W' hp => ?_
  obtain ⟨he, bel⟩ := hp
  subst he
  exact ⟨_, rfl, _, _, _, [], _, [], hW', trodAll_mk1 (shut_bool Try.underlying4 _), (trodAll_cons_mk (Below.trod laidOut (by kernel_rfl) (of_decide_eq_true (by kernel_rfl)) k0 bel lt0) (trodAll_cons_mk (Below.trod laidOut (by kernel_rfl) (of_decide_eq_true (by kernel_rfl)) k1 bel lt1) trodAll_mk0)), rfl, bel.frame _, fun h => by cases h⟩

theorem proved : Rows.BookSeesSaid :=
  OpenClaim.holds_of_wide 4 Try.f4 rfl rfl rfl rfl rfl rfl rfl ⟨rfl, rfl, rfl, rfl, rfl⟩ rfl rfl rfl rfl rfl (by kernel_rfl) Try.func4 (by kernel_rfl)
    (of_decide_eq_true (by kernel_rfl)) (by unfold Func.isWrapper; first | (rw [if_pos (by decide +kernel)]; kernel_rfl) | (rw [if_neg (by decide +kernel)]; exact ⟨rfl, rfl⟩))
    (fun os started H enc _ => lifted os started H enc)
end Go.Proofs.Ytibdogniiglcjab.bookSees
namespace Go.Proofs.Ytibdogniiglcjab
theorem bookSees_holds : Rows.BookSeesSaid := bookSees.proved
#print axioms bookSees_holds
end Go.Proofs.Ytibdogniiglcjab
