/-
  A SCRIPT OF CALLS ON A BOOK; parts.
-/
import Derived.Test.YtgejibjmmfklcabBkWgt
namespace Go.Proofs.Ytgejibjmmfklcab
open Go.RowKit Go.Sort

/-- a call -/
structure Oc where
  kind : Int
  a : Option Addr
  c : Nat
  L : List (List K)
  m : Int
  k : K
structure OcAt (G : Nat → Prop) (w : World) (b off i : Nat) (o : Oc) : Prop where
  nG : ¬ G b
  lt : b < w.heap.size
  c0 : w.cell? ⟨b, off + i * 5, none⟩ = some (.int .i64 o.kind)
  c1 : w.cell? ⟨b, off + i * 5 + 1, none⟩ = some (.slice o.a o.L.length o.c)
  c2 : w.cell? ⟨b, off + i * 5 + 2, none⟩ = some (.int .i64 o.m)
  c3 : w.cell? ⟨b, off + i * 5 + 3, none⟩ = some (.int .i64 o.k.1)
  c4 : w.cell? ⟨b, off + i * 5 + 4, none⟩ = some (.int .i64 o.k.2)
  ws : RWs G w o.a o.L
  big : o.L.length ≤ 140737488351232
  bigs : ∀ s ∈ o.L, s.length ≤ 8796093022208
def OpsAt (G : Nat → Prop) (w : World) (ao : Option Addr) (os : List Oc) : Prop := ∀ i (hi : i < os.length), ∃ b off, ao = some ⟨b, off, none⟩ ∧ OcAt G w b off i os[i]
theorem OpsAt.fr {G : Nat → Prop} {w w' : World} {ao : Option Addr} {os : List Oc} (h : OpsAt G w ao os) (hf : Fr G w w') : OpsAt G w' ao os := fun i hi => by
  obtain ⟨b, off, h1, h⟩ := h i hi
  have hb : w'.heap[b]? = w.heap[b]? := hf.block b h.lt h.nG
  have hc : ∀ j x, w.cell? ⟨b, j, none⟩ = some x → w'.cell? ⟨b, j, none⟩ = some x := fun j x hx => by
    unfold World.cell? at hx ⊢
    simp only at hx ⊢
    rw [hb]
    exact hx
  exact ⟨b, off, h1, h.nG, Nat.lt_of_lt_of_le h.lt hf.size, hc _ _ h.c0, hc _ _ h.c1, hc _ _ h.c2, hc _ _ h.c3, hc _ _ h.c4, h.ws.fr hf, h.big, h.bigs⟩
/-- chains: how many versions each has -/
def ChsAt (w : World) (ao : Option Addr) (cs : List Nat) : Prop := ∀ i (hi : i < cs.length), ∃ b off sa sc, ao = some ⟨b, off, none⟩ ∧ w.cell? ⟨b, off + i * 3 + 2, none⟩ = some (.slice sa cs[i] sc) ∧ cs[i] ≤ 140737488351232
theorem ChsAt.below {w w' : World} {ao : Option Addr} {cs : List Nat} (h : ChsAt w ao cs) (hb : Below w.heap.size w w') : ChsAt w' ao cs := fun i hi => by
  obtain ⟨b, off, sa, sc, h1, h2, h3⟩ := h i hi
  refine ⟨b, off, sa, sc, h1, ?_, h3⟩
  have hl : b < w.heap.size := by
    by_cases h : b < w.heap.size
    · exact h
    · have : w.heap[b]? = none := by simp; omega
      simp [World.cell?, this] at h2
  have he : w'.heap[b]? = w.heap[b]? := hb.block b hl
  unfold World.cell? at h2 ⊢
  simp only at h2 ⊢
  rw [he]
  exact h2
def usedC (cs : List Nat) : Nat := (cs.map (1 + ·)).sum
theorem usedC_take {cs : List Nat} {k : Nat} (h : k < cs.length) : usedC (cs.take (k + 1)) = usedC (cs.take k) + (1 + cs[k]) := by
  unfold usedC
  rw [List.take_succ_eq_append_getElem h, List.map_append, List.sum_append_nat]
  simp
theorem usedC_all : ∀ (cs : List Nat), cs.length ≤ usedC cs ∧ ∀ x ∈ cs, x ≤ usedC cs
  | [] => by simp [usedC]
  | c :: cs => by
    obtain ⟨h1, h2⟩ := usedC_all cs
    have e : usedC (c :: cs) = 1 + c + usedC cs := by simp [usedC]
    rw [e]
    refine ⟨by rw [List.length_cons]; omega, fun x hx => ?_⟩
    rcases List.mem_cons.1 hx with rfl | hx
    · omega
    · have := h2 x hx; omega
def usedS (L : List (List K)) : Nat := usedC (L.map List.length)
def usedO (os : List Oc) : Nat := usedC (os.map (fun o => usedS o.L))
theorem usedS_take {L : List (List K)} {k : Nat} (h : k < L.length) : usedS (L.take (k + 1)) = usedS (L.take k) + (1 + L[k].length) := by
  unfold usedS
  rw [List.map_take, List.map_take, usedC_take (by simpa using h)]
  simp
theorem usedO_take {os : List Oc} {k : Nat} (h : k < os.length) : usedO (os.take (k + 1)) = usedO (os.take k) + (1 + usedS os[k].L) := by
  unfold usedO
  rw [List.map_take, List.map_take, usedC_take (by simpa using h)]
  simp
theorem usedO_all (os : List Oc) : os.length ≤ usedO os ∧ ∀ o ∈ os, o.L.length ≤ usedO os ∧ ∀ s ∈ o.L, s.length ≤ usedO os := by
  obtain ⟨h1, h2⟩ := usedC_all (os.map (fun o => usedS o.L))
  refine ⟨by simpa [usedO] using h1, fun o ho => ?_⟩
  have h3 : usedS o.L ≤ usedO os := h2 _ (List.mem_map.2 ⟨o, ho, rfl⟩)
  obtain ⟨h4, h5⟩ := usedC_all (o.L.map List.length)
  refine ⟨by have : o.L.length ≤ usedS o.L := by simpa [usedS] using h4
             omega, fun s hs => ?_⟩
  have : s.length ≤ usedS o.L := h5 _ (List.mem_map.2 ⟨s, hs, rfl⟩)
  omega
/-- what parts answers -/
def PartsO (pn : Nat) (cs : List Nat) (os : List Oc) (r : Int) : Prop := 0 ≤ r → pn ≤ 100000 ∧ cs.length ≤ 100000 ∧ (∀ c ∈ cs, c ≤ 100000) ∧ os.length ≤ 100000 ∧ ∀ o ∈ os, o.L.length ≤ 100000 ∧ ∀ s ∈ o.L, s.length ≤ 100000
set_option maxRecDepth 100000 in
set_option maxHeartbeats 2000000 in
theorem partsO_any (G : Nat → Prop) (w : World) (cap : Int) (rs : Bool) (lt : Int) (pa : Option Addr) (pn pc : Nat) (ca : Option Addr) (cn cc : Nat) (cs : List Nat) (ao : Option Addr) (n c : Nat) (os : List Oc)
    (hcn : cn = cs.length) (hn : n = os.length) (hch : ChsAt w ca cs) (hops : OpsAt G w ao os) (hp : pn ≤ 140737488351232) (hc : cn ≤ 140737488351232) (ho : n ≤ 140737488351232) :
    Calls Try.prog 8 #[.agg #[.int .i64 cap, .bool rs, .int .i64 lt, .slice pa pn pc, .slice ca cn cc], .slice ao n c] w fun e w' => ∃ r : Int, e = .returned (.int .i64 r) ∧ PartsO pn cs os r ∧ Below w.heap.size w w' := by
  obtain ⟨W1, hW1⟩ : ∃ W1, W1 = w.alloc (.cells #[.int .i64 cap, .bool rs, .int .i64 lt, .slice pa pn pc, .slice ca cn cc] 29) := ⟨_, rfl⟩
  obtain ⟨Kb, hKb⟩ : ∃ Kb, Kb = w.heap.size := ⟨_, rfl⟩
  have HB : Hid (Below w.heap.size w W1 ∧ W1.heap[Kb]? = some (.cells #[.int .i64 cap, .bool rs, .int .i64 lt, .slice pa pn pc, .slice ca cn cc] 29 (0, 0))) := by
    rw [hW1, hKb]
    exact ⟨(Below.refl _ _).alloc (Nat.le_refl _) _, heap_alloc_new _ _ rfl⟩
  have k3 : W1.cell? ⟨Kb, 3, none⟩ = some (.slice pa pn pc) := by have h1 := HB.out.2; simp [World.cell?, h1]
  have k4 : W1.cell? ⟨Kb, 4, none⟩ = some (.slice ca cn cc) := by have h1 := HB.out.2; simp [World.cell?, h1]
  have HC : Hid (ChsAt W1 ca cs) := hch.below HB.out.1
  have HO : Hid (OpsAt G W1 ao os) := hops.fr (Fr.ofBelow HB.out.1)
  have HN : Hid (cn = cs.length ∧ n = os.length) := ⟨hcn, hn⟩
  clear hch hops hcn hn
  go_enter Try.func8, Try.ntmps8
  go_wp2_with fail
  rw [← hW1, ← hKb]
  have HW : Hid (Below w.heap.size w W1) := HB.out.1
  clear hW1 hKb HB
  have hwp : IntKind.i64.wrap (100000 - (pn : Int)) = 100000 - (pn : Int) := by rw [IntKind.wrap_i64]; omega
  go_loopw [5, 6] (fun x y wr => ∃ (k : Nat) (r : Int), k ≤ cn ∧ x = .int .i64 r ∧ y = .int .i64 (k : Int) ∧ Hid (r = 100000 - (pn : Int) - (usedC (cs.take k) : Int)) ∧ r ≤ 100000 ∧ -300000000000000 ≤ r ∧ wr = W1) (fun _ y _ => cn - (intOf y).toNat)
  case atStart => exact ⟨0, 100000 - (pn : Int), Nat.zero_le _, by rw [← hwp], rfl, by simp [Hid, usedC], by omega, by omega, rfl⟩
  case round =>
    obtain ⟨k, r, hk, rfl, rfl, HRe, hr1, hr2, hwr⟩ := hrel
    subst wr
    by_cases hgo : k < cn ∧ 0 ≤ r
    · have hlt := hgo.1
      have hr0 := hgo.2
      have hlt' : k < cs.length := by have := HN.out.1; omega
      obtain ⟨b, off, sa, sc, rfl, c2, hbig⟩ := HC.out k hlt'
      have HU : Hid (usedC (cs.take (k + 1)) = usedC (cs.take k) + (1 + cs[k])) := usedC_take hlt'
      generalize cs[k] = na at *
      have hw1 : IntKind.i64.wrap (r - 1) = r - 1 := by rw [IntKind.wrap_i64]; omega
      have hw2 : IntKind.i64.wrap (r - 1 - (na : Int)) = r - 1 - (na : Int) := by rw [IntKind.wrap_i64]; omega
      have HR2 : Hid (r - 1 - (na : Int) = 100000 - (pn : Int) - (usedC (cs.take (k + 1)) : Int)) := by rw [HU.out, HRe.out]; show _ = _; omega
      clear HU HRe
      go_wp2_with fail
      exact ⟨⟨k + 1, r - 1 - (na : Int), by omega, rfl, by go_num, HR2, by omega, by omega, by first | rfl | trivial⟩, by simp [intOf]; omega⟩
    · have HP1 : Hid (0 ≤ r → pn ≤ 100000 ∧ cs.length ≤ 100000 ∧ ∀ c ∈ cs, c ≤ 100000) := fun h => by
        have hu := HRe.out
        rw [List.take_of_length_le (by have := HN.out.1; omega)] at hu
        obtain ⟨h1, h2⟩ := usedC_all cs
        refine ⟨by omega, by omega, fun x hx => ?_⟩
        have := h2 x hx
        omega
      clear HRe
      rcases (by omega : ¬ (k < cn) ∨ (k < cn ∧ r < 0)) with hx | ⟨hx, hx2⟩
      all_goals
        go_wp2_with fail
        clear hgo k3 k4 HC
        generalize hr9 : r = R at *
        clear hr9
        go_loopw [5, 7, 8] (fun x y _ wr => ∃ (k : Nat) (r : Int), k ≤ n ∧ x = .int .i64 r ∧ y = .int .i64 (k : Int) ∧ Hid (0 ≤ r → r + (usedO (os.take k) : Int) = R) ∧ r ≤ 100000 ∧ -300000000000000 ≤ r ∧ wr = W1) (fun _ y _ _ => n - (intOf y).toNat)
        case atStart => exact ⟨0, R, Nat.zero_le _, rfl, rfl, by simp [Hid, usedO, usedC], by omega, by omega, rfl⟩
        case round =>
          clear hx
          obtain ⟨i, r, hi, rfl, rfl, HRe, hs1, hs2, hwr⟩ := hrel
          subst wr
          by_cases hgo : i < n ∧ 0 ≤ r
          · have hlt := hgo.1
            have hr0 := hgo.2
            have hlt' : i < os.length := by have := HN.out.2; omega
            obtain ⟨b, off, rfl, hoc⟩ := HO.out i hlt'
            have HU : Hid (usedO (os.take (i + 1)) = usedO (os.take i) + (1 + usedS os[i].L)) := usedO_take hlt'
            have c1 := hoc.c1
            have HRw := hidC hoc.ws
            have hbig := hoc.big
            have HBs := hidC hoc.bigs
            clear hoc
            generalize os[i] = o at *
            obtain ⟨ln, hln⟩ : ∃ ln, ln = o.L.length := ⟨_, rfl⟩
            rw [← hln] at c1 hbig
            have HLn := hidC hln
            clear hln hgo
            have hw1 : IntKind.i64.wrap (r - 1) = r - 1 := by rw [IntKind.wrap_i64]; omega
            go_wp2_with fail
            go_loopw [5, 8] (fun x y wr => ∃ (j : Nat) (r' : Int), j ≤ ln ∧ x = .int .i64 r' ∧ y = .int .i64 (j : Int) ∧ Hid (0 ≤ r' → r' + (usedS (o.L.take j) : Int) = r - 1) ∧ r' ≤ 100000 ∧ -300000000000000 ≤ r' ∧ wr = W1) (fun _ y _ => ln - (intOf y).toNat)
            case atStart => exact ⟨0, r - 1, Nat.zero_le _, rfl, rfl, by simp [Hid, usedS, usedC], by omega, by omega, rfl⟩
            case round =>
              obtain ⟨j, r', hj, rfl, rfl, HRj, hj1, hj2, hwr⟩ := hrel
              subst wr
              by_cases hgo : j < ln ∧ 0 ≤ r'
              · have hjlt := hgo.1
                have hjr := hgo.2
                have hjl : j < o.L.length := by have := HLn.out; omega
                obtain ⟨b', off', sa, sc, e, _, _, c1', _, _⟩ := HRw.out j hjl
                rw [e] at c1
                have HV : Hid (usedS (o.L.take (j + 1)) = usedS (o.L.take j) + (1 + o.L[j].length)) := usedS_take hjl
                have hb2 : o.L[j].length ≤ 8796093022208 := HBs.out _ (List.getElem_mem hjl)
                generalize o.L[j].length = na at *
                have HR2 : Hid (0 ≤ r' - 1 - (na : Int) → r' - 1 - (na : Int) + (usedS (o.L.take (j + 1)) : Int) = r - 1) := fun h => by
                  have := HRj.out hjr
                  have := HV.out
                  omega
                have hv1 : IntKind.i64.wrap (r' - 1) = r' - 1 := by rw [IntKind.wrap_i64]; omega
                have hv2 : IntKind.i64.wrap (r' - 1 - (na : Int)) = r' - 1 - (na : Int) := by rw [IntKind.wrap_i64]; omega
                clear HV HRj hgo
                go_wp2_with fail
                exact ⟨⟨j + 1, r' - 1 - (na : Int), by omega, rfl, by go_num, HR2, by omega, by omega, by first | rfl | trivial⟩, by simp [intOf]; omega⟩
              · have HX : Hid (0 ≤ r' → r' + (usedO (os.take (i + 1)) : Int) = R) := fun h => by
                  have h1 := HRe.out hr0
                  have h2 := HRj.out h
                  rw [List.take_of_length_le (by have := HLn.out; omega)] at h2
                  have h3 := HU.out
                  omega
                clear HRj HRe HU
                rcases (by omega : ¬ (j < ln) ∨ (j < ln ∧ r' < 0)) with hx | ⟨hx, hx3⟩
                all_goals
                  go_wp2_with fail
                  exact ⟨⟨i + 1, r', by omega, rfl, by go_num, HX, by omega, by omega, by first | rfl | trivial⟩, by simp [intOf]; omega⟩
          · have HX : Hid (PartsO pn cs os r) := fun h => by
              have h1 := HRe.out h
              rw [List.take_of_length_le (by have := HN.out.2; omega)] at h1
              obtain ⟨h2, h3⟩ := usedO_all os
              obtain ⟨h4, h5, h6⟩ := HP1.out (by omega)
              refine ⟨h4, h5, h6, by omega, fun o ho => ⟨?_, fun s hs => ?_⟩⟩
              · have := (h3 o ho).1; omega
              · have := (h3 o ho).2 s hs; omega
            clear HRe
            rcases (by omega : ¬ (i < n) ∨ (i < n ∧ r < 0)) with hx | ⟨hx, hx3⟩
            all_goals
              go_wp2
              go_ret
              exact ⟨r, rfl, HX.out, HW.out⟩
end Go.Proofs.Ytgejibjmmfklcab
