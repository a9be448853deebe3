import Derived.Test.YtibdogniiglcjabBkForm
import Derived.Test.YtibdogniiglcjabJBkCopy2
import Derived.Test.YtibdogniiglcjabBkSpoil2
/-
  weight, THE LAW's OWN; num.
-/
namespace Go.Proofs.Ytibdogniiglcjab
open Go.RowKit Go.Sort

/-- the weight of a batch whose form is right; else -1 -/
def wgtE (L : List (List K)) : Int := if formN L = 0 then (wgt L : Int) else -1
theorem wgtE_bad {L : List (List K)} {x : Int} (h : formN L = x) (hx : x ≠ 0) : wgtE L = -1 := by
  unfold wgtE
  rw [if_neg (by rw [h]; exact hx)]
theorem wgtE_ok {L : List (List K)} (h : formN L = 0) : wgtE L = (wgt L : Int) := by
  unfold wgtE
  rw [if_pos h]
theorem formL_take : ∀ {L : List (List K)} {i : Nat}, (∀ s ∈ L.take i, s.length ≤ 16 ∧ Rise s) → formL L = formL (L.drop i)
  | [], i, _ => by simp
  | s :: l, 0, _ => rfl
  | s :: l, i + 1, h => by
    have h1 := h s (by simp)
    show formL (s :: l) = formL (l.drop i)
    rw [show formL (s :: l) = if 16 < s.length then 64 else if Rise s then formL l else 65 from rfl, if_neg (by omega), if_pos h1.2]
    exact formL_take (fun t ht => h t (by rw [List.take_succ_cons]; exact List.mem_cons_of_mem _ ht))
set_option maxRecDepth 100000 in
set_option maxHeartbeats 2000000 in
theorem weightL_any (G : Nat → Prop) (w : World) (ao : Option Addr) (n c : Nat) (L : List (List K)) (hn : n = L.length) (h : RWs G w ao L) (hb : ∀ s ∈ L, s.length ≤ 8796093022208) (hnb : n ≤ 1000000000000) :
    Calls Try.prog 12 #[.slice ao n c] w fun e w' => e = .returned (.int .i64 (wgtE L)) ∧ Below w.heap.size w w' := by
  have HN : Hid (n = L.length ∧ ∀ s ∈ L, s.length ≤ 8796093022208) := ⟨hn, hb⟩
  have HR : Hid (∀ W, Below w.heap.size w W → RWs G W ao L) := fun W hW => h.fr (Fr.ofBelow hW)
  clear hn h hb
  by_cases h64 : 64 < n
  · have h64b : (64 : Int) < (n : Int) := by omega
    have HE : Hid (wgtE L = -1) := wgtE_bad (x := 60) (by unfold formN; rw [if_pos (by have := HN.out.1; omega)]) (by decide)
    go_enter Try.func12, Try.ntmps12
    go_wp2
    go_ret
    exact ⟨by rw [HE.out]; rfl, Below.refl _ _⟩
  · have h64b : ¬ (64 : Int) < (n : Int) := by omega
    have HE : Hid (formN L = formL L) := by show _ = _; unfold formN; rw [if_neg (by have := HN.out.1; omega)]
    go_enter Try.func12, Try.ntmps12
    go_wp2_with fail
    go_loopw [3, 4] (fun xs x wr => ∃ i s : Nat, i ≤ n ∧ x = .int .i64 (i : Int) ∧ xs = .int .i64 (s : Int) ∧ s ≤ 16 * i ∧ Hid (s = wgt (L.take i) ∧ (∀ t ∈ L.take i, t.length ≤ 16 ∧ Rise t) ∧ Below w.heap.size w wr)) (fun _ x _ => n - (intOf x).toNat)
    case atStart => exact ⟨0, 0, Nat.zero_le _, rfl, rfl, by omega, rfl, by simp, Below.refl _ _⟩
    case round =>
      obtain ⟨i, s, hi, rfl, rfl, hs16, HI⟩ := hrel
      by_cases hlt : i < n
      · have hil : i < L.length := by have := HN.out.1; omega
        obtain ⟨b, off, sa, sc, rfl, _, hrow⟩ := (HR.out wr HI.out.2.2).at hil
        have c1 := (hrow wr (Fr.refl _ _)).1
        have hk := (hrow wr (Fr.refl _ _)).2
        have HD : Hid (formL L = if 16 < L[i].length then 64 else if Rise L[i] then formL (L.drop (i + 1)) else 65) := by
          show _ = _
          rw [formL_take HI.out.2.1, List.drop_eq_getElem_cons hil]
          rfl
        have HRow : Hid (∀ W, Below wr.heap.size wr W → W.cell? ⟨b, off + i, none⟩ = some (.slice sa L[i].length sc)) := fun W hW => (hrow W (Fr.ofBelow hW)).1
        have HW : Hid (wgt (L.take (i + 1)) = s + L[i].length) := by show _ = _; rw [wgt_take hil, ← HI.out.1]
        have HT : Hid (∀ t ∈ L.take (i + 1), t ∈ L.take i ∨ t = L[i]) := fun t ht => by
          rw [List.take_succ_eq_append_getElem hil] at ht
          rcases List.mem_append.1 ht with h | h
          · exact .inl h
          · simp at h; exact .inr h
        have HRi := hidC (rises_any wr sa sc L[i].length L[i] rfl hk (HN.out.2 _ (List.getElem_mem hil)))
        have hsb : L[i].length ≤ 8796093022208 := HN.out.2 _ (List.getElem_mem hil)
        clear hk hrow
        generalize hs : L[i] = t at *
        obtain ⟨m, hm⟩ : ∃ m, m = t.length := ⟨_, rfl⟩
        have HM := hidC hm
        rw [← hm] at c1 HRi hsb HRow HW
        clear hs hm hil
        have hii : (i : Int) < (n : Int) := by omega
        by_cases h16 : 16 < m
        · have h16b : decide ((16 : Int) < (m : Int)) = true := decide_eq_true (by omega)
          have HX : Hid (wgtE L = -1) := wgtE_bad (x := 64) (by rw [HE.out, HD.out, if_pos (by have := HM.out; omega)]) (by decide)
          have HB := hidC HI.out.2.2
          clear HRi HI
          go_wp2
          go_ret
          exact ⟨by rw [HX.out]; rfl, HB.out⟩
        · have h16b : decide ((16 : Int) < (m : Int)) = false := decide_eq_false (by omega)
          go_wp2_with fail
          refine HRi.out.mono ?_
          rintro e W2 ⟨rfl, q, os, hW2⟩
          have HB0 : Hid (Below wr.heap.size wr W2) := by rw [hW2]; exact Grew.below ⟨q, os, rfl⟩
          have HB2 : Hid (Below w.heap.size w W2) := HI.out.2.2.trans (HB0.out.mono HI.out.2.2.size)
          have c2 := HRow.out W2 HB0.out
          clear hW2 HRi c1
          by_cases hr : Rise t
          · rw [decide_eq_true hr]
            have HX : Hid (s + m = wgt (L.take (i + 1)) ∧ (∀ x ∈ L.take (i + 1), x.length ≤ 16 ∧ Rise x)) := by
              refine ⟨HW.out.symm, fun x hx => ?_⟩
              rcases HT.out x hx with h | h
              · exact HI.out.2.1 x h
              · subst h; exact ⟨by have := HM.out; omega, hr⟩
            clear HI HD hr HRow HW HT
            have hsw : wrap64 ((s : Int) + (m : Int)) = (s : Int) + (m : Int) := by unfold wrap64; omega
            go_wp2
            refine ⟨⟨i + 1, s + m, by omega, by rw [show ((i + 1 : Nat) : Int) = (i : Int) + 1 by omega], ?_, by omega, HX.out.1, HX.out.2, HB2.out⟩, by simp [intOf]; omega⟩
            first | rw [hsw, show ((s + m : Nat) : Int) = (s : Int) + (m : Int) by omega] | rw [show ((s + m : Nat) : Int) = (s : Int) + (m : Int) by omega]
          · rw [decide_eq_false hr]
            have HX : Hid (wgtE L = -1) := wgtE_bad (x := 65) (by rw [HE.out, HD.out, if_neg (by have := HM.out; omega), if_neg hr]) (by decide)
            clear HI HD hr
            go_wp2
            go_ret
            exact ⟨by rw [HX.out]; rfl, HB2.out⟩
      · have HX : Hid (wgtE L = (s : Int)) := by
          have h1 := HI.out.1
          rw [List.take_of_length_le (by have := HN.out.1; omega)] at h1
          show _ = _
          rw [h1]
          exact wgtE_ok (by rw [HE.out, formL_take HI.out.2.1, List.drop_eq_nil_of_le (by have := HN.out.1; omega)]; rfl)
        have HB := hidC HI.out.2.2
        clear HI
        go_wp2
        go_ret
        exact ⟨by rw [HX.out]; rfl, HB.out⟩
theorem numB_any (w : World) (x : Int) : Calls Try.prog 11 #[.int .i64 x] w fun e w' => e = .returned (.int .i64 x) ∧ w' = w := by
  go_enter Try.func11, Try.ntmps11
  go_wp2
  go_ret
  exact ⟨rfl, rfl⟩
end Go.Proofs.Ytibdogniiglcjab
/-
  A SCRIPT OF CALLS ON A BOOK; parts.
-/
namespace Go.Proofs.Ytibdogniiglcjab
open Go.RowKit Go.Sort

/-- a call -/
structure Oc where
  kind : Int
  a : Option Addr
  c : Nat
  L : List (List K)
  m : Int
  k : K
structure OcAt (G : Nat → Prop) (w : World) (b off i : Nat) (o : Oc) : Prop where
  nG : ¬ G b
  lt : b < w.heap.size
  c0 : w.cell? ⟨b, off + i * 5, none⟩ = some (.int .i64 o.kind)
  c1 : w.cell? ⟨b, off + i * 5 + 1, none⟩ = some (.slice o.a o.L.length o.c)
  c2 : w.cell? ⟨b, off + i * 5 + 2, none⟩ = some (.int .i64 o.m)
  c3 : w.cell? ⟨b, off + i * 5 + 3, none⟩ = some (.int .i64 o.k.1)
  c4 : w.cell? ⟨b, off + i * 5 + 4, none⟩ = some (.int .i64 o.k.2)
  ws : RWs G w o.a o.L
  big : o.L.length ≤ 140737488351232
  bigs : ∀ s ∈ o.L, s.length ≤ 8796093022208
def OpsAt (G : Nat → Prop) (w : World) (ao : Option Addr) (os : List Oc) : Prop := ∀ i (hi : i < os.length), ∃ b off, ao = some ⟨b, off, none⟩ ∧ OcAt G w b off i os[i]
theorem OpsAt.fr {G : Nat → Prop} {w w' : World} {ao : Option Addr} {os : List Oc} (h : OpsAt G w ao os) (hf : Fr G w w') : OpsAt G w' ao os := fun i hi => by
  obtain ⟨b, off, h1, h⟩ := h i hi
  have hb : w'.heap[b]? = w.heap[b]? := hf.block b h.lt h.nG
  have hc : ∀ j x, w.cell? ⟨b, j, none⟩ = some x → w'.cell? ⟨b, j, none⟩ = some x := fun j x hx => by
    unfold World.cell? at hx ⊢
    simp only at hx ⊢
    rw [hb]
    exact hx
  exact ⟨b, off, h1, h.nG, Nat.lt_of_lt_of_le h.lt hf.size, hc _ _ h.c0, hc _ _ h.c1, hc _ _ h.c2, hc _ _ h.c3, hc _ _ h.c4, h.ws.fr hf, h.big, h.bigs⟩
/-- chains: how many versions each has -/
def ChsAt (w : World) (ao : Option Addr) (cs : List Nat) : Prop := ∀ i (hi : i < cs.length), ∃ b off sa sc, ao = some ⟨b, off, none⟩ ∧ w.cell? ⟨b, off + i * 3 + 2, none⟩ = some (.slice sa cs[i] sc) ∧ cs[i] ≤ 140737488351232
theorem ChsAt.below {w w' : World} {ao : Option Addr} {cs : List Nat} (h : ChsAt w ao cs) (hb : Below w.heap.size w w') : ChsAt w' ao cs := fun i hi => by
  obtain ⟨b, off, sa, sc, h1, h2, h3⟩ := h i hi
  refine ⟨b, off, sa, sc, h1, ?_, h3⟩
  have hl : b < w.heap.size := by
    by_cases h : b < w.heap.size
    · exact h
    · have : w.heap[b]? = none := by simp; omega
      simp [World.cell?, this] at h2
  have he : w'.heap[b]? = w.heap[b]? := hb.block b hl
  unfold World.cell? at h2 ⊢
  simp only at h2 ⊢
  rw [he]
  exact h2
def usedC (cs : List Nat) : Nat := (cs.map (1 + ·)).sum
theorem usedC_take {cs : List Nat} {k : Nat} (h : k < cs.length) : usedC (cs.take (k + 1)) = usedC (cs.take k) + (1 + cs[k]) := by
  unfold usedC
  rw [List.take_succ_eq_append_getElem h, List.map_append, List.sum_append_nat]
  simp
theorem usedC_all : ∀ (cs : List Nat), cs.length ≤ usedC cs ∧ ∀ x ∈ cs, x ≤ usedC cs
  | [] => by simp [usedC]
  | c :: cs => by
    obtain ⟨h1, h2⟩ := usedC_all cs
    have e : usedC (c :: cs) = 1 + c + usedC cs := by simp [usedC]
    rw [e]
    refine ⟨by rw [List.length_cons]; omega, fun x hx => ?_⟩
    rcases List.mem_cons.1 hx with rfl | hx
    · omega
    · have := h2 x hx; omega
def usedS (L : List (List K)) : Nat := usedC (L.map List.length)
def usedO (os : List Oc) : Nat := usedC (os.map (fun o => usedS o.L))
theorem usedS_take {L : List (List K)} {k : Nat} (h : k < L.length) : usedS (L.take (k + 1)) = usedS (L.take k) + (1 + L[k].length) := by
  unfold usedS
  rw [List.map_take, List.map_take, usedC_take (by simpa using h)]
  simp
theorem usedO_take {os : List Oc} {k : Nat} (h : k < os.length) : usedO (os.take (k + 1)) = usedO (os.take k) + (1 + usedS os[k].L) := by
  unfold usedO
  rw [List.map_take, List.map_take, usedC_take (by simpa using h)]
  simp
theorem usedO_all (os : List Oc) : os.length ≤ usedO os ∧ ∀ o ∈ os, o.L.length ≤ usedO os ∧ ∀ s ∈ o.L, s.length ≤ usedO os := by
  obtain ⟨h1, h2⟩ := usedC_all (os.map (fun o => usedS o.L))
  refine ⟨by simpa [usedO] using h1, fun o ho => ?_⟩
  have h3 : usedS o.L ≤ usedO os := h2 _ (List.mem_map.2 ⟨o, ho, rfl⟩)
  obtain ⟨h4, h5⟩ := usedC_all (o.L.map List.length)
  refine ⟨by have : o.L.length ≤ usedS o.L := by simpa [usedS] using h4
             omega, fun s hs => ?_⟩
  have : s.length ≤ usedS o.L := h5 _ (List.mem_map.2 ⟨s, hs, rfl⟩)
  omega
/-- what parts answers -/
def PartsO (pn : Nat) (cs : List Nat) (os : List Oc) (r : Int) : Prop := 0 ≤ r → pn ≤ 100000 ∧ cs.length ≤ 100000 ∧ (∀ c ∈ cs, c ≤ 100000) ∧ os.length ≤ 100000 ∧ ∀ o ∈ os, o.L.length ≤ 100000 ∧ ∀ s ∈ o.L, s.length ≤ 100000
set_option maxRecDepth 100000 in
set_option maxHeartbeats 2000000 in
theorem partsO_any (G : Nat → Prop) (w : World) (cap : Int) (rs : Bool) (lt : Int) (pa : Option Addr) (pn pc : Nat) (ca : Option Addr) (cn cc : Nat) (cs : List Nat) (ao : Option Addr) (n c : Nat) (os : List Oc)
    (hcn : cn = cs.length) (hn : n = os.length) (hch : ChsAt w ca cs) (hops : OpsAt G w ao os) (hp : pn ≤ 140737488351232) (hc : cn ≤ 140737488351232) (ho : n ≤ 140737488351232) :
    Calls Try.prog 8 #[.agg #[.int .i64 cap, .bool rs, .int .i64 lt, .slice pa pn pc, .slice ca cn cc], .slice ao n c] w fun e w' => ∃ r : Int, e = .returned (.int .i64 r) ∧ PartsO pn cs os r ∧ Below w.heap.size w w' := by
  obtain ⟨W1, hW1⟩ : ∃ W1, W1 = w.alloc (.cells #[.int .i64 cap, .bool rs, .int .i64 lt, .slice pa pn pc, .slice ca cn cc] 29) := ⟨_, rfl⟩
  obtain ⟨Kb, hKb⟩ : ∃ Kb, Kb = w.heap.size := ⟨_, rfl⟩
  have HB : Hid (Below w.heap.size w W1 ∧ W1.heap[Kb]? = some (.cells #[.int .i64 cap, .bool rs, .int .i64 lt, .slice pa pn pc, .slice ca cn cc] 29 (0, 0))) := by
    rw [hW1, hKb]
    exact ⟨(Below.refl _ _).alloc (Nat.le_refl _) _, heap_alloc_new _ _ rfl⟩
  have k3 : W1.cell? ⟨Kb, 3, none⟩ = some (.slice pa pn pc) := by have h1 := HB.out.2; simp [World.cell?, h1]
  have k4 : W1.cell? ⟨Kb, 4, none⟩ = some (.slice ca cn cc) := by have h1 := HB.out.2; simp [World.cell?, h1]
  have HC : Hid (ChsAt W1 ca cs) := hch.below HB.out.1
  have HO : Hid (OpsAt G W1 ao os) := hops.fr (Fr.ofBelow HB.out.1)
  have HN : Hid (cn = cs.length ∧ n = os.length) := ⟨hcn, hn⟩
  clear hch hops hcn hn
  go_enter Try.func8, Try.ntmps8
  go_wp2_with fail
  rw [← hW1, ← hKb]
  have HW : Hid (Below w.heap.size w W1) := HB.out.1
  clear hW1 hKb HB
  have hwp : IntKind.i64.wrap (100000 - (pn : Int)) = 100000 - (pn : Int) := by rw [IntKind.wrap_i64]; omega
  go_loopw [5, 6] (fun x y wr => ∃ (k : Nat) (r : Int), k ≤ cn ∧ x = .int .i64 r ∧ y = .int .i64 (k : Int) ∧ Hid (r = 100000 - (pn : Int) - (usedC (cs.take k) : Int)) ∧ r ≤ 100000 ∧ -300000000000000 ≤ r ∧ wr = W1) (fun _ y _ => cn - (intOf y).toNat)
  case atStart => exact ⟨0, 100000 - (pn : Int), Nat.zero_le _, by rw [← hwp], rfl, by simp [Hid, usedC], by omega, by omega, rfl⟩
  case round =>
    obtain ⟨k, r, hk, rfl, rfl, HRe, hr1, hr2, hwr⟩ := hrel
    subst wr
    by_cases hgo : k < cn ∧ 0 ≤ r
    · have hlt := hgo.1
      have hr0 := hgo.2
      have hlt' : k < cs.length := by have := HN.out.1; omega
      obtain ⟨b, off, sa, sc, rfl, c2, hbig⟩ := HC.out k hlt'
      have HU : Hid (usedC (cs.take (k + 1)) = usedC (cs.take k) + (1 + cs[k])) := usedC_take hlt'
      generalize cs[k] = na at *
      have hw1 : IntKind.i64.wrap (r - 1) = r - 1 := by rw [IntKind.wrap_i64]; omega
      have hw2 : IntKind.i64.wrap (r - 1 - (na : Int)) = r - 1 - (na : Int) := by rw [IntKind.wrap_i64]; omega
      have HR2 : Hid (r - 1 - (na : Int) = 100000 - (pn : Int) - (usedC (cs.take (k + 1)) : Int)) := by rw [HU.out, HRe.out]; show _ = _; omega
      clear HU HRe
      go_wp2_with fail
      exact ⟨⟨k + 1, r - 1 - (na : Int), by omega, rfl, by go_num, HR2, by omega, by omega, by first | rfl | trivial⟩, by simp [intOf]; omega⟩
    · have HP1 : Hid (0 ≤ r → pn ≤ 100000 ∧ cs.length ≤ 100000 ∧ ∀ c ∈ cs, c ≤ 100000) := fun h => by
        have hu := HRe.out
        rw [List.take_of_length_le (by have := HN.out.1; omega)] at hu
        obtain ⟨h1, h2⟩ := usedC_all cs
        refine ⟨by omega, by omega, fun x hx => ?_⟩
        have := h2 x hx
        omega
      clear HRe
      rcases (by omega : ¬ (k < cn) ∨ (k < cn ∧ r < 0)) with hx | ⟨hx, hx2⟩
      all_goals
        go_wp2_with fail
        clear hgo k3 k4 HC
        generalize hr9 : r = R at *
        clear hr9
        go_loopw [5, 7, 8] (fun x y _ wr => ∃ (k : Nat) (r : Int), k ≤ n ∧ x = .int .i64 r ∧ y = .int .i64 (k : Int) ∧ Hid (0 ≤ r → r + (usedO (os.take k) : Int) = R) ∧ r ≤ 100000 ∧ -300000000000000 ≤ r ∧ wr = W1) (fun _ y _ _ => n - (intOf y).toNat)
        case atStart => exact ⟨0, R, Nat.zero_le _, rfl, rfl, by simp [Hid, usedO, usedC], by omega, by omega, rfl⟩
        case round =>
          clear hx
          obtain ⟨i, r, hi, rfl, rfl, HRe, hs1, hs2, hwr⟩ := hrel
          subst wr
          by_cases hgo : i < n ∧ 0 ≤ r
          · have hlt := hgo.1
            have hr0 := hgo.2
            have hlt' : i < os.length := by have := HN.out.2; omega
            obtain ⟨b, off, rfl, hoc⟩ := HO.out i hlt'
            have HU : Hid (usedO (os.take (i + 1)) = usedO (os.take i) + (1 + usedS os[i].L)) := usedO_take hlt'
            have c1 := hoc.c1
            have HRw := hidC hoc.ws
            have hbig := hoc.big
            have HBs := hidC hoc.bigs
            clear hoc
            generalize os[i] = o at *
            obtain ⟨ln, hln⟩ : ∃ ln, ln = o.L.length := ⟨_, rfl⟩
            rw [← hln] at c1 hbig
            have HLn := hidC hln
            clear hln hgo
            have hw1 : IntKind.i64.wrap (r - 1) = r - 1 := by rw [IntKind.wrap_i64]; omega
            go_wp2_with fail
            go_loopw [5, 8] (fun x y wr => ∃ (j : Nat) (r' : Int), j ≤ ln ∧ x = .int .i64 r' ∧ y = .int .i64 (j : Int) ∧ Hid (0 ≤ r' → r' + (usedS (o.L.take j) : Int) = r - 1) ∧ r' ≤ 100000 ∧ -300000000000000 ≤ r' ∧ wr = W1) (fun _ y _ => ln - (intOf y).toNat)
            case atStart => exact ⟨0, r - 1, Nat.zero_le _, rfl, rfl, by simp [Hid, usedS, usedC], by omega, by omega, rfl⟩
            case round =>
              obtain ⟨j, r', hj, rfl, rfl, HRj, hj1, hj2, hwr⟩ := hrel
              subst wr
              by_cases hgo : j < ln ∧ 0 ≤ r'
              · have hjlt := hgo.1
                have hjr := hgo.2
                have hjl : j < o.L.length := by have := HLn.out; omega
                obtain ⟨b', off', sa, sc, e, _, _, c1', _, _⟩ := HRw.out j hjl
                rw [e] at c1
                have HV : Hid (usedS (o.L.take (j + 1)) = usedS (o.L.take j) + (1 + o.L[j].length)) := usedS_take hjl
                have hb2 : o.L[j].length ≤ 8796093022208 := HBs.out _ (List.getElem_mem hjl)
                generalize o.L[j].length = na at *
                have HR2 : Hid (0 ≤ r' - 1 - (na : Int) → r' - 1 - (na : Int) + (usedS (o.L.take (j + 1)) : Int) = r - 1) := fun h => by
                  have := HRj.out hjr
                  have := HV.out
                  omega
                have hv1 : IntKind.i64.wrap (r' - 1) = r' - 1 := by rw [IntKind.wrap_i64]; omega
                have hv2 : IntKind.i64.wrap (r' - 1 - (na : Int)) = r' - 1 - (na : Int) := by rw [IntKind.wrap_i64]; omega
                clear HV HRj hgo
                go_wp2_with fail
                exact ⟨⟨j + 1, r' - 1 - (na : Int), by omega, rfl, by go_num, HR2, by omega, by omega, by first | rfl | trivial⟩, by simp [intOf]; omega⟩
              · have HX : Hid (0 ≤ r' → r' + (usedO (os.take (i + 1)) : Int) = R) := fun h => by
                  have h1 := HRe.out hr0
                  have h2 := HRj.out h
                  rw [List.take_of_length_le (by have := HLn.out; omega)] at h2
                  have h3 := HU.out
                  omega
                clear HRj HRe HU
                rcases (by omega : ¬ (j < ln) ∨ (j < ln ∧ r' < 0)) with hx | ⟨hx, hx3⟩
                all_goals
                  go_wp2_with fail
                  exact ⟨⟨i + 1, r', by omega, rfl, by go_num, HX, by omega, by omega, by first | rfl | trivial⟩, by simp [intOf]; omega⟩
          · have HX : Hid (PartsO pn cs os r) := fun h => by
              have h1 := HRe.out h
              rw [List.take_of_length_le (by have := HN.out.2; omega)] at h1
              obtain ⟨h2, h3⟩ := usedO_all os
              obtain ⟨h4, h5, h6⟩ := HP1.out (by omega)
              refine ⟨h4, h5, h6, by omega, fun o ho => ⟨?_, fun s hs => ?_⟩⟩
              · have := (h3 o ho).1; omega
              · have := (h3 o ho).2 s hs; omega
            clear HRe
            rcases (by omega : ¬ (i < n) ∨ (i < n ∧ r < 0)) with hx | ⟨hx, hx3⟩
            all_goals
              go_wp2
              go_ret
              exact ⟨r, rfl, HX.out, HW.out⟩
end Go.Proofs.Ytibdogniiglcjab
/-
  made.
-/
namespace Go.Proofs.Ytibdogniiglcjab
open Go.RowKit Go.Sort

theorem snSize_kl (l : List Ch) : snSize l = ((kl l).map (fun p => p.2.length)).sum := by simp [snSize, kl, List.map_map, Function.comp_def]
theorem snV_kl (l : List Ch) : snV l = (kl l).flatMap (fun p => p.2.map (fun v => (p.1, (v.b, v.i)))) := by simp [snV, kl, List.flatMap_map]; rfl
theorem CanR.same {s t : Sn} (hl : t.la = s.la) (hp : t.pins = s.pins) (hk : kl t.chs = kl s.chs) (h : CanR s) : CanR t := by
  refine ⟨by rw [hl]; exact h.1, by rw [hl, hp]; exact h.2.1, fun c hc => ?_, ?_⟩
  · have h1 : (c.k, c.l) ∈ kl t.chs := List.mem_map.2 ⟨c, hc, rfl⟩
    rw [hk] at h1
    obtain ⟨c', hc', e⟩ := List.mem_map.1 h1
    have e2 : c'.l = c.l := congrArg Prod.snd e
    rw [hl, hp, ← e2]
    exact h.2.2.1 c' hc'
  · have e1 : ∀ l : List Ch, l.map Ch.k = (kl l).map Prod.fst := fun l => by simp [kl, List.map_map, Function.comp_def]
    rw [e1, hk, ← e1]
    exact h.2.2.2
theorem restE_same {cap : Int} {s t : Sn} (hl : t.la = s.la) (hp : t.pins = s.pins) (hk : kl t.chs = kl s.chs) : restE cap t = restE cap s := by
  have h1 : CanR t ↔ CanR s := ⟨CanR.same hl.symm hp.symm hk.symm, CanR.same hl hp hk⟩
  have h2 : snSize t.chs = snSize s.chs := by rw [snSize_kl, snSize_kl, hk]
  by_cases hc : cap < 1 ∨ 65536 < cap
  · rw [restE_cap hc, restE_cap hc]
  · have hc' : 1 ≤ cap ∧ cap ≤ 65536 := by omega
    by_cases hR : CanR s
    · by_cases hr : cap < (snSize s.chs : Int)
      · rw [restE_room hc' hR hr, restE_room hc' (h1.2 hR) (by rw [h2]; exact hr)]
      · rw [restE_ok hc' hR hr, restE_ok hc' (h1.2 hR) (by rw [h2]; exact hr)]
    · rw [restE_can hc' hR, restE_can hc' (fun h => hR (h1.1 h))]
theorem SnOK.same {s t : Sn} (hl : t.la = s.la) (hp : t.pins = s.pins) (hk : kl t.chs = kl s.chs) (h : SnOK s) : SnOK t := by
  have hm : ∀ c ∈ t.chs, ∃ c' ∈ s.chs, c'.k = c.k ∧ c'.l = c.l := fun c hc => by
    have h1 : (c.k, c.l) ∈ kl t.chs := List.mem_map.2 ⟨c, hc, rfl⟩
    rw [hk] at h1
    obtain ⟨c', hc', e⟩ := List.mem_map.1 h1
    exact ⟨c', hc', congrArg Prod.fst e, congrArg Prod.snd e⟩
  refine ⟨by rw [hp]; exact h.np, ?_, fun c hc => ?_, by rw [hp]; exact h.ip, fun c hc => ?_, by rw [hl]; exact h.il⟩
  · have h1 := congrArg List.length hk
    simp [kl] at h1
    rw [h1]
    exact h.nc
  · obtain ⟨c', hc', _, e2⟩ := hm c hc
    rw [← e2]
    exact h.nv c' hc'
  · obtain ⟨c', hc', e1, e2⟩ := hm c hc
    rw [← e1, ← e2]
    exact h.ic c' hc'
/-- a Made -/
def mdv (cap : Int) (rs : Bool) (s : Sn) : Value := .agg #[.int .i64 cap, .bool rs, .int .i64 s.la, .slice s.pa s.pins.length s.pc, .slice s.ca s.chs.length s.cc]
/-- what it makes -/
noncomputable def mdE (cap : Int) (rs : Bool) (s : Sn) : Int := by
  classical
  exact if rs then restE cap s else if cap < 1 ∨ 65536 < cap then 91 else 0
def mdL (rs : Bool) (s : Sn) : Int := if rs then s.la else 0
def mdP (rs : Bool) (s : Sn) : List (Int × Int) := if rs then s.pins else []
def mdA (rs : Bool) (s : Sn) : List V4 := if rs then snV s.chs else []
def MadePost (w : World) (cap : Int) (rs : Bool) (s : Sn) (e : Ending) (w' : World) : Prop :=
  ∃ P bv rv, e = .returned (.tuple #[ptr P, .bool true]) ∧ w'.heap[P]? = some (.cells #[bv, rv, .slice none 0 0, .slice none 0 0, .slice none 0 0, .slice none 0 0, .slice none 0 0, .slice none 0 0] 55 (0, 0)) ∧ w.heap.size ≤ P ∧ Below w.heap.size w w' ∧
    ((mdE cap rs s ≠ 0 ∧ bv = .pointer none ∧ rv = .pointer none) ∨
     (mdE cap rs s = 0 ∧ ∃ B Mp Mc Mn nw R av pv, bv = ptr B ∧ rv = ptr R ∧ BA w' B Mp Mc Mn cap (mdL rs s) (mdL rs s) (mdP rs s) (mdA rs s) nw ∧ (∀ k, SB B Mp Mc Mn k → w.heap.size ≤ k) ∧ RB w' w.heap.size R cap (mdL rs s) (mdL rs s) av pv (mdA rs s) (mdP rs s)))
theorem BA.spl {n0 n1 : Nat} {w w' : World} {B Mp Mc Mn : Nat} {cap latest floor : Int} {pins : List (Int × Int)} {all : List V4} {nw : List K} (h : BA w B Mp Mc Mn cap latest floor pins all nw) (hs : Spl n0 n1 w w') (hn : ∀ k, SB B Mp Mc Mn k → n1 ≤ k) : BA w' B Mp Mc Mn cap latest floor pins all nw :=
  h.same (fun k hk => hs.fr.block k (h.lt hk) (fun e => by have := hn k hk; omega))
set_option maxRecDepth 100000 in
set_option maxHeartbeats 4000000 in
theorem made_any (N : Nat) (w : World) (cap : Int) (rs : Bool) (s : Sn) (h : SnAt N w s) (hN : N ≤ w.heap.size) (ho : SnOK s) :
    Calls Try.prog 19 #[mdv cap rs s] w fun e w' => MadePost w cap rs s e w' := by
  obtain ⟨pn, hpn⟩ : ∃ pn, pn = s.pins.length := ⟨_, rfl⟩
  obtain ⟨cn, hcn⟩ : ∃ cn, cn = s.chs.length := ⟨_, rfl⟩
  obtain ⟨pa, hpa⟩ : ∃ pa, pa = s.pa := ⟨_, rfl⟩
  obtain ⟨ca, hca⟩ : ∃ ca, ca = s.ca := ⟨_, rfl⟩
  obtain ⟨pc, hpc⟩ : ∃ pc, pc = s.pc := ⟨_, rfl⟩
  obtain ⟨cc, hcc⟩ : ∃ cc, cc = s.cc := ⟨_, rfl⟩
  obtain ⟨la, hla⟩ : ∃ la, la = s.la := ⟨_, rfl⟩
  have hsv : snv s = .agg #[.int .i64 la, .slice pa pn pc, .slice ca cn cc] := by rw [hla, hpa, hpn, hpc, hca, hcn, hcc]; rfl
  have hmv : mdv cap rs s = .agg #[.int .i64 cap, .bool rs, .int .i64 la, .slice pa pn pc, .slice ca cn cc] := by rw [hla, hpa, hpn, hpc, hca, hcn, hcc]; rfl
  obtain ⟨W1, hW1⟩ : ∃ W1, W1 = w.alloc (.cells #[.int .i64 cap, .bool rs, .int .i64 la, .slice pa pn pc, .slice ca cn cc] 29) := ⟨_, rfl⟩
  obtain ⟨Kb, hKb⟩ : ∃ Kb, Kb = w.heap.size := ⟨_, rfl⟩
  have HB : Hid (Below w.heap.size w W1 ∧ W1.heap[Kb]? = some (.cells #[.int .i64 cap, .bool rs, .int .i64 la, .slice pa pn pc, .slice ca cn cc] 29 (0, 0)) ∧ Kb < W1.heap.size) := by
    rw [hW1, hKb]
    exact ⟨(Below.refl _ _).alloc (Nat.le_refl _) _, heap_alloc_new _ _ rfl, by simp⟩
  have HK : Hid (∀ W, Below W1.heap.size W1 W → W.cell? ⟨Kb, 0, none⟩ = some (.int .i64 cap) ∧ W.cell? ⟨Kb, 1, none⟩ = some (.bool rs) ∧ W.cell? ⟨Kb, 2, none⟩ = some (.int .i64 la) ∧ W.cell? ⟨Kb, 3, none⟩ = some (.slice pa pn pc) ∧ W.cell? ⟨Kb, 4, none⟩ = some (.slice ca cn cc)) := fun W hW => by
    have h4 : W.heap[Kb]? = _ := (hW.block _ (blk_lt HB.out.2.1)).trans HB.out.2.1
    refine ⟨?_, ?_, ?_, ?_, ?_⟩ <;> simp [World.cell?, h4]
  have HS : Hid (∀ W, Below W1.heap.size W1 W → SnAt N W s ∧ N ≤ W.heap.size) := fun W hW => by
    have hb := HB.out.1
    have hz := hb.size
    have hz2 := hW.size
    exact ⟨(h.below (hb.mono hN)).below (hW.mono (by omega)), by omega⟩
  have HBw : Hid (∀ W, Below W1.heap.size W1 W → Below w.heap.size w W) := fun W hW => HB.out.1.trans (hW.mono HB.out.1.size)
  have HCp : Hid (Calls Try.prog 40 #[.agg #[.int .i64 la, .slice pa pn pc, .slice ca cn cc]] W1 fun e w' => CpPost W1 s e w') := by
    have h1 := copySn_any N W1 s (HS.out W1 (Below.refl _ _)).1 (HS.out W1 (Below.refl _ _)).2 ho
    rw [hsv] at h1
    exact h1
  have HRR : Hid (∀ W, Below W1.heap.size W1 W → Calls Try.prog 42 #[.int .i64 cap, .agg #[.int .i64 la, .slice pa pn pc, .slice ca cn cc]] W fun e w' => RRPost W cap s e w') := fun W hW => by
    have h1 := rrestore_any N W cap s (HS.out W hW).1 (HS.out W hW).2 ho
    rw [hsv] at h1
    exact h1
  have HO := hidC ho
  rw [hmv]
  clear h hpn hcn hpa hca hpc hcc hla hsv hmv ho
  go_enter Try.func19, Try.ntmps19
  go_upto_region 1 with fail
  rw [← hW1, ← hKb]
  clear hW1 hKb
  cases rs with
  | false =>
    obtain ⟨k0, k1, _⟩ := HK.out W1 (Below.refl _ _)
    clear HCp HRR
    go_wp2_with fail
    refine (new_any W1 cap).mono ?_
    rintro e W2 (⟨hcap, rfl, hw2⟩ | ⟨hcap, B, Mp, Mc, Mn, rfl, hba, hsb, hb2⟩)
    · subst hw2
      go_wp2_with fail
      refine (rnew_any W2 cap).mono ?_
      rintro e W3 (⟨_, rfl, hw3⟩ | ⟨hcap2, _⟩)
      · subst hw3
        obtain ⟨W4, hW4⟩ : ∃ W4, W4 = W3.alloc (.cells #[.pointer none, .pointer none, .slice none 0 0, .slice none 0 0, .slice none 0 0, .slice none 0 0, .slice none 0 0, .slice none 0 0] 55) := ⟨_, rfl⟩
        have HX : Hid (MadePost w cap false s (.returned (.tuple #[ptr W3.heap.size, .bool true])) W4) := by
          have hE : mdE cap false s = 91 := by unfold mdE; simp [hcap]
          have hb4 : Below W3.heap.size W3 W4 := by rw [hW4]; exact (Below.refl _ _).alloc (Nat.le_refl _) _
          refine ⟨W3.heap.size, .pointer none, .pointer none, rfl, by rw [hW4]; exact heap_alloc_new _ _ rfl, HB.out.1.size, HBw.out _ hb4, .inl ⟨by rw [hE]; decide, rfl, rfl⟩⟩
        go_wp2_with fail
        rw [← hW4]
        clear hW4
        refine (numB_any W4 91).mono ?_
        rintro e W5 ⟨rfl, hw5⟩
        subst hw5
        go_wp2
        go_ret2
        exact HX.out
      · exact absurd hcap (by omega)
    · obtain ⟨k0, _⟩ := HK.out W2 hb2
      have HA2 := hidC (And.intro hba hsb)
      have HB2 := hidC hb2
      clear hba hsb hb2
      go_wp2_with fail
      refine (rnew_any W2 cap).mono ?_
      rintro e W3 (⟨hcap2, _⟩ | ⟨_, rfl, hrb, hb3, hz3⟩)
      · exact absurd hcap (by omega)
      · clear hz3
        obtain ⟨W4, hW4⟩ : ∃ W4, W4 = W3.alloc (.cells #[ptr B, ptr W2.heap.size, .slice none 0 0, .slice none 0 0, .slice none 0 0, .slice none 0 0, .slice none 0 0, .slice none 0 0] 55) := ⟨_, rfl⟩
        have HX : Hid (MadePost w cap false s (.returned (.tuple #[ptr W3.heap.size, .bool true])) W4) := by
          have hE : mdE cap false s = 0 := by unfold mdE; rw [if_neg (by decide), if_neg (by omega)]
          have hb4 : Below W3.heap.size W3 W4 := by rw [hW4]; exact (Below.refl _ _).alloc (Nat.le_refl _) _
          have hb13 : Below W1.heap.size W1 W3 := HB2.out.trans (hb3.mono HB2.out.size)
          have hb14 : Below W1.heap.size W1 W4 := hb13.trans (hb4.mono hb13.size)
          have hz := HB.out.1.size
          have hz2 := HB2.out.size
          have hr4 := hrb.kept hb4
          refine ⟨W3.heap.size, ptr B, ptr W2.heap.size, rfl, by rw [hW4]; exact heap_alloc_new _ _ rfl, by have := hb13.size; omega, HBw.out _ hb14, .inr ⟨hE, B, Mp, Mc, Mn, [], W2.heap.size, .slice none 0 0, .slice none 0 0, rfl, rfl, (HA2.out.1.kept hb3).kept hb4, fun k hk => Nat.le_trans hz (HA2.out.2 k hk), ⟨hr4.bk, ownsRow_base_a hr4.ra (by omega), ownsRow_base_a hr4.rp (by omega), by omega⟩⟩⟩
        clear hrb hb3
        go_wp2_with fail
        rw [← hW4]
        clear hW4
        refine (numB_any W4 0).mono ?_
        rintro e W5 ⟨rfl, hw5⟩
        subst hw5
        go_wp2
        go_ret2
        exact HX.out
  | true =>
    obtain ⟨k0, k1, k2, k3, k4⟩ := HK.out W1 (Below.refl _ _)
    go_wp2_with fail
    refine HCp.out.mono ?_
    rintro e W2 ⟨s', rfl, hl', hp', hk', hat, hsh, hrs, hb2⟩
    have hz12 := hb2.size
    have hO' := SnOK.same hl' hp' hk' HO.out
    have hEs := restE_same (cap := cap) hl' hp' hk'
    obtain ⟨l', pa', pn', pc', ca', cn', cc', hsv'⟩ : ∃ l' pa' pn' pc' ca' cn' cc', snv s' = .agg #[.int .i64 l', .slice pa' pn' pc', .slice ca' cn' cc'] := ⟨_, _, _, _, _, _, _, rfl⟩
    obtain ⟨W3, hW3⟩ : ∃ W3, W3 = W2.alloc (.cells #[.int .i64 l', .slice pa' pn' pc', .slice ca' cn' cc'] 27) := ⟨_, rfl⟩
    obtain ⟨Sb, hSb⟩ : ∃ Sb, Sb = W2.heap.size := ⟨_, rfl⟩
    have hb3 : Below W2.heap.size W2 W3 := by rw [hW3]; exact (Below.refl _ _).alloc (Nat.le_refl _) _
    have hs3 : W3.heap[Sb]? = some (.cells #[.int .i64 l', .slice pa' pn' pc', .slice ca' cn' cc'] 27 (0, 0)) := by rw [hW3, hSb]; exact heap_alloc_new _ _ rfl
    have hz23 := hb3.size
    have hb13 : Below W1.heap.size W1 W3 := hb2.trans (hb3.mono hz12)
    have HRe : Hid (Calls Try.prog 27 #[.int .i64 cap, .agg #[.int .i64 l', .slice pa' pn' pc', .slice ca' cn' cc']] W3 fun e w' => RestPost W3 cap s' e w') := by
      have h1 := restore_any W2.heap.size W3 cap s' (hat.below hb3) hz23 hO'
      rw [hsv'] at h1
      exact h1
    have HSp : Hid (∀ W, Below W3.heap.size W3 W → Calls Try.prog 41 #[.agg #[.int .i64 l', .slice pa' pn' pc', .slice ca' cn' cc']] W fun e w' => SpPost W1.heap.size W2.heap.size W e w') := fun W hW => by
      have hb2W : Below W2.heap.size W2 W := hb3.trans (hW.mono hz23)
      have h1 := spoil_any W1.heap.size W2.heap.size W s' (hsh.below hb2W) (fun k hk hik => by
        obtain ⟨g, e1, e2⟩ := hrs k hk hik
        exact ⟨g, e1, (hb2W.cell (p := ⟨g, k * 3 + 2, none⟩) (World.block_lt_of_cell? _ _ e2)).trans e2⟩) (by have := hb2W.size; omega) hO'
      rw [hsv'] at h1
      exact h1
    have HCk : Hid (∀ W, Below W3.heap.size W3 W → W.cell? ⟨Sb, 0, none⟩ = some (.int .i64 l') ∧ W.cell? ⟨Sb, 1, none⟩ = some (.slice pa' pn' pc') ∧ W.cell? ⟨Sb, 2, none⟩ = some (.slice ca' cn' cc')) := fun W hW => by
      have h4 : W.heap[Sb]? = _ := (hW.block _ (blk_lt hs3)).trans hs3
      refine ⟨?_, ?_, ?_⟩ <;> simp [World.cell?, h4]
    have HX3 : Hid (Below W1.heap.size W1 W3 ∧ W1.heap.size ≤ W2.heap.size ∧ W2.heap.size ≤ W3.heap.size ∧ restE cap s' = restE cap s ∧ s'.la = s.la ∧ s'.pins = s.pins ∧ snV s'.chs = snV s.chs) := ⟨hb13, hz12, hz23, hEs, hl', hp', by rw [snV_kl, snV_kl, hk']⟩
    rw [hsv']
    clear hat hsh hrs hb2 hO' hEs hl' hp' hk' hsv' hb3 hs3 hb13 HCp HO hz12 hz23 k0 k1 k2 k3 k4
    go_upto_region 6 with fail
    rw [← hW3, ← hSb]
    clear hW3 hSb
    obtain ⟨k0, _⟩ := HK.out W3 HX3.out.1
    obtain ⟨j0, j1, j2⟩ := HCk.out W3 (Below.refl _ _)
    go_wp2_with fail
    refine HRe.out.mono ?_
    clear k0 j0 j1 j2
    rintro e W4 (⟨hE, rfl, hb4⟩ | ⟨hE, B, Mp, Mc, Mn, nw, rfl, hba, hsb, hb4⟩)
    · rw [HX3.out.2.2.2.1] at hE ⊢
      obtain ⟨E, hEe⟩ : ∃ E, E = restE cap s := ⟨_, rfl⟩
      rw [← hEe] at hE ⊢
      have HEe := hidC hEe
      have HB4 := hidC hb4
      have HSp4 := hidC (HSp.out W4 hb4)
      obtain ⟨j0, j1, j2⟩ := HCk.out W4 hb4
      clear hb4 hEe HRe HSp
      go_wp2_with fail
      refine HSp4.out.mono ?_
      rintro e W5 ⟨⟨xx, rfl⟩, hsp⟩
      have HB5 : Hid (Below W1.heap.size W1 W5) := by
        have h1 := HX3.out.1.trans (HB4.out.mono HX3.out.1.size)
        exact h1.trans (hsp.fr.below h1.size (fun k hk => hk.1))
      clear hsp HSp4 j0 j1 j2
      obtain ⟨k0, _, k2, k3, k4⟩ := HK.out W5 HB5.out
      go_wp2_with fail
      refine (HRR.out W5 HB5.out).mono ?_
      rintro e W6 (⟨_, rfl, hb6⟩ | ⟨hE2, _⟩)
      · rw [← HEe.out]
        obtain ⟨W7, hW7⟩ : ∃ W7, W7 = W6.alloc (.cells #[.pointer none, .pointer none, .slice none 0 0, .slice none 0 0, .slice none 0 0, .slice none 0 0, .slice none 0 0, .slice none 0 0] 55) := ⟨_, rfl⟩
        have HX : Hid (MadePost w cap true s (.returned (.tuple #[ptr W6.heap.size, .bool true])) W7) := by
          have hE9 : mdE cap true s = E := by unfold mdE; rw [if_pos rfl]; exact HEe.out.symm
          have hb7 : Below W6.heap.size W6 W7 := by rw [hW7]; exact (Below.refl _ _).alloc (Nat.le_refl _) _
          have hb16 : Below W1.heap.size W1 W6 := HB5.out.trans (hb6.mono HB5.out.size)
          have hb17 : Below W1.heap.size W1 W7 := hb16.trans (hb7.mono hb16.size)
          refine ⟨W6.heap.size, .pointer none, .pointer none, rfl, by rw [hW7]; exact heap_alloc_new _ _ rfl, by have := HB.out.1.size; have := hb16.size; omega, HBw.out _ hb17, .inl ⟨by rw [hE9]; exact hE, rfl, rfl⟩⟩
        clear hb6 k0 k2 k3 k4
        go_wp2_with fail
        rw [← hW7]
        clear hW7
        refine (numB_any W7 E).mono ?_
        rintro e W8 ⟨rfl, hw8⟩
        subst hw8
        go_wp2
        go_ret2
        exact HX.out
      · exact absurd (HEe.out.trans hE2) hE
    · rw [HX3.out.2.2.2.1] at hE
      have HA4 := hidC hba
      have HSB : Hid (∀ k, SB B Mp Mc Mn k → W3.heap.size ≤ k) := hsb
      have HB4 := hidC hb4
      have HSp4 := hidC (HSp.out W4 hb4)
      obtain ⟨j0, j1, j2⟩ := HCk.out W4 hb4
      have HEe := hidC hE
      clear hb4 HRe HSp hba hsb hE
      go_wp2_with fail
      refine HSp4.out.mono ?_
      rintro e W5 ⟨⟨xx, rfl⟩, hsp⟩
      have HB5 : Hid (Below W1.heap.size W1 W5) := by
        have h1 := HX3.out.1.trans (HB4.out.mono HX3.out.1.size)
        exact h1.trans (hsp.fr.below h1.size (fun k hk => hk.1))
      have HA5 := hidC (HA4.out.spl hsp (fun k hk => by have := HSB.out k hk; have := HX3.out.2.2.1; omega))
      clear hsp HSp4 j0 j1 j2 HA4
      obtain ⟨k0, _, k2, k3, k4⟩ := HK.out W5 HB5.out
      go_wp2_with fail
      refine (HRR.out W5 HB5.out).mono ?_
      rintro e W6 (⟨hE2, _⟩ | ⟨_, R, av, pv, rfl, hrb, hb6⟩)
      · exact absurd HEe.out hE2
      · obtain ⟨W7, hW7⟩ : ∃ W7, W7 = W6.alloc (.cells #[ptr B, ptr R, .slice none 0 0, .slice none 0 0, .slice none 0 0, .slice none 0 0, .slice none 0 0, .slice none 0 0] 55) := ⟨_, rfl⟩
        have HX : Hid (MadePost w cap true s (.returned (.tuple #[ptr W6.heap.size, .bool true])) W7) := by
          have hE9 : mdE cap true s = 0 := by unfold mdE; rw [if_pos rfl]; exact HEe.out
          have hb7 : Below W6.heap.size W6 W7 := by rw [hW7]; exact (Below.refl _ _).alloc (Nat.le_refl _) _
          have hb16 : Below W1.heap.size W1 W6 := HB5.out.trans (hb6.mono HB5.out.size)
          have hb17 : Below W1.heap.size W1 W7 := hb16.trans (hb7.mono hb16.size)
          have hr7 := hrb.kept hb7
          have hz1 := HB.out.1.size
          have hz5 := HB5.out.size
          have hz6 := hb6.size
          have hA7 := (HA5.out.kept hb6).kept hb7
          rw [HX3.out.2.2.2.2.1, HX3.out.2.2.2.2.2.1, HX3.out.2.2.2.2.2.2] at hA7
          refine ⟨W6.heap.size, ptr B, ptr R, rfl, by rw [hW7]; exact heap_alloc_new _ _ rfl, by omega, HBw.out _ hb17, .inr ⟨hE9, B, Mp, Mc, Mn, nw, R, av, pv, rfl, rfl, hA7, fun k hk => ?_, ⟨hr7.bk, ownsRow_base_a hr7.ra (by omega), ownsRow_base_a hr7.rp (by omega), by have := hr7.le; omega⟩⟩⟩
          have h1 := HSB.out k hk
          have h2 := HX3.out.2.1
          have h3 := HX3.out.2.2.1
          omega
        clear hb6 k0 k2 k3 k4 hrb
        go_wp2_with fail
        rw [← hW7]
        clear hW7
        refine (numB_any W7 0).mono ?_
        rintro e W8 ⟨rfl, hw8⟩
        subst hw8
        go_wp2
        go_ret2
        exact HX.out
end Go.Proofs.Ytibdogniiglcjab
/-
  A SCRIPT WITH ONE CALL MORE; THE PARTS OF A MADE.
-/
namespace Go.Proofs.Ytibdogniiglcjab
open Go.RowKit Go.Sort

def ocs : List Oc → List Value
  | [] => []
  | o :: l => .int .i64 o.kind :: .slice o.a o.L.length o.c :: .int .i64 o.m :: .int .i64 o.k.1 :: .int .i64 o.k.2 :: ocs l
theorem ocs_append : ∀ A C : List Oc, ocs (A ++ C) = ocs A ++ ocs C
  | [], _ => rfl
  | x :: A, C => by simp only [List.cons_append, ocs, ocs_append A C]
theorem ocs_length : ∀ l : List Oc, (ocs l).length = l.length * 5
  | [] => rfl
  | x :: l => by simp only [ocs, List.length_cons, ocs_length l]; omega
theorem ocs_one : ∀ (l : List Oc), ∀ v ∈ ocs l, v.oneCell' = true
  | [] => by simp [ocs]
  | x :: l => by
    intro v hv
    simp only [ocs, List.mem_cons] at hv
    rcases hv with rfl | rfl | rfl | rfl | rfl | h
    · rfl
    · rfl
    · rfl
    · rfl
    · rfl
    · exact ocs_one l v h
theorem ocs_at : ∀ (l : List Oc) (i : Nat) (h : i < l.length), (ocs l)[i * 5]? = some (.int .i64 l[i].kind) ∧ (ocs l)[i * 5 + 1]? = some (.slice l[i].a l[i].L.length l[i].c) ∧ (ocs l)[i * 5 + 2]? = some (.int .i64 l[i].m) ∧ (ocs l)[i * 5 + 3]? = some (.int .i64 l[i].k.1) ∧ (ocs l)[i * 5 + 4]? = some (.int .i64 l[i].k.2)
  | [], i, h => by simp at h
  | x :: l, 0, _ => by simp [ocs]
  | x :: l, i + 1, h => by
    have := ocs_at l i (by simp at h; omega)
    rw [show (i + 1) * 5 = i * 5 + 1 + 1 + 1 + 1 + 1 by omega]
    simpa [ocs] using this
theorem ocs_idx {l : List Oc} {j : Nat} {u : Value} (h : (ocs l)[j]? = some u) : ∃ i m, ∃ _ : i < l.length, j = i * 5 + m ∧ m < 5 := by
  have hj : j < l.length * 5 := by rw [← ocs_length]; exact (List.getElem?_eq_some_iff.1 h).1
  exact ⟨j / 5, j % 5, by omega, by omega, by omega⟩
/-- a script's cells -/
theorem OpsAt.cs {G : Nat → Prop} {w : World} {ao : Option Addr} {os : List Oc} (h : OpsAt G w ao os) : CsAt w.heap.size w ao (ocs os) := fun j u hu => by
  obtain ⟨i, m, hi, rfl, hm⟩ := ocs_idx hu
  obtain ⟨b, off, h1, h2⟩ := h i hi
  obtain ⟨e0, e1, e2, e3, e4⟩ := ocs_at os i hi
  refine ⟨b, off, h1, h2.lt, ?_⟩
  have hc : ∀ n x, (ocs os)[i * 5 + n]? = some x → m = n → w.cell? ⟨b, off + i * 5 + n, none⟩ = some x → w.cell? ⟨b, off + (i * 5 + m), none⟩ = some u := fun n x hx hmn hc => by
    subst hmn
    rw [hx] at hu
    cases hu
    rw [← Nat.add_assoc]
    exact hc
  rcases (by omega : m = 0 ∨ m = 1 ∨ m = 2 ∨ m = 3 ∨ m = 4) with hm | hm | hm | hm | hm
  · exact hc 0 _ e0 hm h2.c0
  · exact hc 1 _ e1 hm h2.c1
  · exact hc 2 _ e2 hm h2.c2
  · exact hc 3 _ e3 hm h2.c3
  · exact hc 4 _ e4 hm h2.c4
/-- append of a slice whose cells lie anywhere -/
theorem AKd.app2 {TS TE : TypeId} {sz bt : Nat} {z : Value} (H : AKd TS TE sz bt z) {w : World} (ty : TypeId) (base : Nat) (v : Value) (n : Nat) (xs : List Value) (hown : w.ownsRow base TE sz v n xs) (N : Nat) (ao : Option Addr) (m c : Nat) (ys : List Value) (hm : ys.length = m * sz) (hsrc : CsAt N w ao ys) (h0 : ao = none → c = 0) (h1 : ∀ u ∈ ys, u.oneCell' = true) (hlen : n + m ≤ 10000000000000) (hby : (n + m) * bt ≤ 140737488355328) (hbase : base ≤ w.heap.size) :
    ∃ v' w', (Builtin.append_ #[TS, TS] ty #[v, .slice ao m c]).run Try.prog w = .ok v' w' ∧ w'.ownsRow base TE sz v' (n + m) (xs ++ ys) ∧ w.grownBy w' v.ownBlock ∧ (v'.ownBlock = v.ownBlock ∨ v'.ownBlock = some w.heap.size) := by
  obtain ⟨i0, hi, hz0, hz1, hz2⟩ := info_parts H.info
  cases ao with
  | none =>
    have hy : ys = [] := by
      cases ys with
      | nil => rfl
      | cons y ys =>
        obtain ⟨_, _, h2, _⟩ := hsrc 0 y rfl
        cases h2
    subst hy
    have hm0 : m = 0 := by
      rcases Nat.eq_zero_or_pos m with h | h
      · exact h
      · have := Nat.mul_pos h H.pos; simp at hm; omega
    subst hm0
    obtain rfl := h0 rfl
    exact ⟨v, w, run_append_owned_none (P := Try.prog) (w := w) base TS ty TE i0 sz H.u hi v n xs hown, by simpa using hown, World.grownBy.refl _ _, .inl rfl⟩
  | some ad =>
    obtain ⟨v', w', hr, h2, h3, _, h5⟩ := run_append_own_at (P := Try.prog) (w := w) base TS ty TE i0 z sz bt H.u hi hz0 hz1 hz2 H.zs H.pos v n xs hown ad m c ys hm (by
      intro j u hu
      obtain ⟨b, off, e, _, h⟩ := hsrc j u hu
      cases e
      rw [addr_add]
      exact h) h1 (by unfold maxLen; omega) hby hbase
    exact ⟨v', w', hr, h2, h3, h5⟩
theorem akOp : AKd 22 40 5 56 (.agg #[.int .i64 0, .slice none 0 0, .int .i64 0, .int .i64 0, .int .i64 0]) := ⟨Try.underlying22, by kernel_rfl, rfl, by omega⟩
/-- a row of one's own is a script -/
theorem OpsAt.own {w : World} {base : Nat} {a : Option Addr} {m c : Nat} {os : List Oc} (h : w.ownsRow base 40 5 (.slice a m c) os.length (ocs os)) (hw : ∀ o ∈ os, RWs (fun _ => False) w o.a o.L ∧ o.L.length ≤ 140737488351232 ∧ ∀ s ∈ o.L, s.length ≤ 8796093022208) : OpsAt (fun _ => False) w a os := fun i hi => by
  obtain ⟨_, hc, _, _⟩ := rowCs h
  obtain ⟨e0, e1, e2, e3, e4⟩ := ocs_at os i hi
  obtain ⟨b, off, h1, h2, h3⟩ := hc _ _ e0
  have hcc : ∀ n x, (ocs os)[i * 5 + n]? = some x → w.cell? ⟨b, off + i * 5 + n, none⟩ = some x := fun n x hx => by
    obtain ⟨b', off', e, _, hx'⟩ := hc _ _ hx
    rw [h1] at e
    cases e
    rw [Nat.add_assoc]
    exact hx'
  have hm := hw _ (List.getElem_mem hi)
  exact ⟨b, off, h1, fun h => h, h2, h3, hcc 1 _ e1, hcc 2 _ e2, hcc 3 _ e3, hcc 4 _ e4, hm.1, hm.2.1, hm.2.2⟩
/-- the chains of a snapshot, as parts sees them -/
theorem SnAt.chs {N : Nat} {w : World} {s : Sn} (h : SnAt N w s) (hb : ∀ c ∈ s.chs, c.l.length ≤ 140737488351232) : ChsAt w s.ca (s.chs.map (fun c => c.l.length)) := fun i hi => by
  simp only [List.length_map] at hi
  obtain ⟨b, off, h1, _, _, h4⟩ := h.chain hi
  simp only [List.getElem_map]
  exact ⟨b, off, _, _, h1, h4, hb _ (List.getElem_mem hi)⟩
/-- what is known of a Made ahead of parts -/
structure SnIn (s : Sn) : Prop where
  np : s.pins.length ≤ 140737488351232
  nc : s.chs.length ≤ 140737488351232
  nv : ∀ c ∈ s.chs, c.l.length ≤ 140737488351232
  ip : ∀ p ∈ s.pins, In64 p.1 ∧ In64 p.2
  ic : ∀ c ∈ s.chs, KIn c.k ∧ ∀ v ∈ c.l, In64 v.b ∧ In64 v.i
  il : In64 s.la
theorem SnIn.ok {s : Sn} {os : List Oc} {r : Int} (h : SnIn s) (hp : PartsO s.pins.length (s.chs.map (fun c => c.l.length)) os r) (hr : 0 ≤ r) : SnOK s := by
  obtain ⟨h1, h2, h3, _⟩ := hp hr
  exact ⟨h1, by simpa using h2, fun c hc => h3 _ (List.mem_map.2 ⟨c, hc, rfl⟩), h.ip, h.ic, h.il⟩
end Go.Proofs.Ytibdogniiglcjab
