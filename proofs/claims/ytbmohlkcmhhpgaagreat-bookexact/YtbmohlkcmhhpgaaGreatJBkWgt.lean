import Derived.Test.YtbmohlkcmhhpgaaGreatBkForm
import Derived.Test.YtbmohlkcmhhpgaaGreatJKCompact
import Derived.Test.YtbmohlkcmhhpgaaGreatBkColl
import Derived.Test.YtbmohlkcmhhpgaaGreatBkPin
import Derived.Test.YtbmohlkcmhhpgaaGreatBkAdmit
/-
  weight, THE LAW's OWN; num.
-/
namespace Go.Proofs.YtbmohlkcmhhpgaaGreat
open Go.RowKit Go.Sort

/-- the weight of a batch whose form is right; else -1 -/
def wgtE (L : List (List K)) : Int := if formN L = 0 then (wgt L : Int) else -1
theorem wgtE_bad {L : List (List K)} {x : Int} (h : formN L = x) (hx : x ≠ 0) : wgtE L = -1 := by
  unfold wgtE
  rw [if_neg (by rw [h]; exact hx)]
theorem wgtE_ok {L : List (List K)} (h : formN L = 0) : wgtE L = (wgt L : Int) := by
  unfold wgtE
  rw [if_pos h]
theorem formL_take : ∀ {L : List (List K)} {i : Nat}, (∀ s ∈ L.take i, s.length ≤ 16 ∧ Rise s) → formL L = formL (L.drop i)
  | [], i, _ => by simp
  | s :: l, 0, _ => rfl
  | s :: l, i + 1, h => by
    have h1 := h s (by simp)
    show formL (s :: l) = formL (l.drop i)
    rw [show formL (s :: l) = if 16 < s.length then 64 else if Rise s then formL l else 65 from rfl, if_neg (by omega), if_pos h1.2]
    exact formL_take (fun t ht => h t (by rw [List.take_succ_cons]; exact List.mem_cons_of_mem _ ht))
theorem numB_any (w : World) (x : Int) : Calls Tryz.prog 11 #[.int .i64 x] w fun e w' => e = .returned (.int .i64 x) ∧ w' = w := by
  go_enter Tryz.func11, Tryz.ntmps11
  go_wp2
  go_ret
  exact ⟨rfl, rfl⟩
end Go.Proofs.YtbmohlkcmhhpgaaGreat
/-
  A SCRIPT OF CALLS ON A BOOK; parts.
-/
namespace Go.Proofs.YtbmohlkcmhhpgaaGreat
open Go.RowKit Go.Sort

/-- a call -/
structure Oc where
  kind : Int
  a : Option Addr
  c : Nat
  L : List (List K)
  m : Int
  k : K
structure OcAt (G : Nat → Prop) (w : World) (b off i : Nat) (o : Oc) : Prop where
  nG : ¬ G b
  lt : b < w.heap.size
  c0 : w.cell? ⟨b, off + i * 5, none⟩ = some (.int .i64 o.kind)
  c1 : w.cell? ⟨b, off + i * 5 + 1, none⟩ = some (.slice o.a o.L.length o.c)
  c2 : w.cell? ⟨b, off + i * 5 + 2, none⟩ = some (.int .i64 o.m)
  c3 : w.cell? ⟨b, off + i * 5 + 3, none⟩ = some (.int .i64 o.k.1)
  c4 : w.cell? ⟨b, off + i * 5 + 4, none⟩ = some (.int .i64 o.k.2)
  ws : RWs G w o.a o.L
  big : o.L.length ≤ 140737488351232
  bigs : ∀ s ∈ o.L, s.length ≤ 8796093022208
def OpsAt (G : Nat → Prop) (w : World) (ao : Option Addr) (os : List Oc) : Prop := ∀ i (hi : i < os.length), ∃ b off, ao = some ⟨b, off, none⟩ ∧ OcAt G w b off i os[i]
theorem OpsAt.fr {G : Nat → Prop} {w w' : World} {ao : Option Addr} {os : List Oc} (h : OpsAt G w ao os) (hf : Fr G w w') : OpsAt G w' ao os := fun i hi => by
  obtain ⟨b, off, h1, h⟩ := h i hi
  have hb : w'.heap[b]? = w.heap[b]? := hf.block b h.lt h.nG
  have hc : ∀ j x, w.cell? ⟨b, j, none⟩ = some x → w'.cell? ⟨b, j, none⟩ = some x := fun j x hx => by
    unfold World.cell? at hx ⊢
    simp only at hx ⊢
    rw [hb]
    exact hx
  exact ⟨b, off, h1, h.nG, Nat.lt_of_lt_of_le h.lt hf.size, hc _ _ h.c0, hc _ _ h.c1, hc _ _ h.c2, hc _ _ h.c3, hc _ _ h.c4, h.ws.fr hf, h.big, h.bigs⟩
/-- chains: how many versions each has -/
def ChsAt (w : World) (ao : Option Addr) (cs : List Nat) : Prop := ∀ i (hi : i < cs.length), ∃ b off sa sc, ao = some ⟨b, off, none⟩ ∧ w.cell? ⟨b, off + i * 3 + 2, none⟩ = some (.slice sa cs[i] sc) ∧ cs[i] ≤ 140737488351232
theorem ChsAt.below {w w' : World} {ao : Option Addr} {cs : List Nat} (h : ChsAt w ao cs) (hb : Below w.heap.size w w') : ChsAt w' ao cs := fun i hi => by
  obtain ⟨b, off, sa, sc, h1, h2, h3⟩ := h i hi
  refine ⟨b, off, sa, sc, h1, ?_, h3⟩
  have hl : b < w.heap.size := by
    by_cases h : b < w.heap.size
    · exact h
    · have : w.heap[b]? = none := by simp; omega
      simp [World.cell?, this] at h2
  have he : w'.heap[b]? = w.heap[b]? := hb.block b hl
  unfold World.cell? at h2 ⊢
  simp only at h2 ⊢
  rw [he]
  exact h2
def usedC (cs : List Nat) : Nat := (cs.map (1 + ·)).sum
theorem usedC_take {cs : List Nat} {k : Nat} (h : k < cs.length) : usedC (cs.take (k + 1)) = usedC (cs.take k) + (1 + cs[k]) := by
  unfold usedC
  rw [List.take_succ_eq_append_getElem h, List.map_append, List.sum_append_nat]
  simp
theorem usedC_all : ∀ (cs : List Nat), cs.length ≤ usedC cs ∧ ∀ x ∈ cs, x ≤ usedC cs
  | [] => by simp [usedC]
  | c :: cs => by
    obtain ⟨h1, h2⟩ := usedC_all cs
    have e : usedC (c :: cs) = 1 + c + usedC cs := by simp [usedC]
    rw [e]
    refine ⟨by rw [List.length_cons]; omega, fun x hx => ?_⟩
    rcases List.mem_cons.1 hx with rfl | hx
    · omega
    · have := h2 x hx; omega
def usedS (L : List (List K)) : Nat := usedC (L.map List.length)
def usedO (os : List Oc) : Nat := usedC (os.map (fun o => usedS o.L))
theorem usedS_take {L : List (List K)} {k : Nat} (h : k < L.length) : usedS (L.take (k + 1)) = usedS (L.take k) + (1 + L[k].length) := by
  unfold usedS
  rw [List.map_take, List.map_take, usedC_take (by simpa using h)]
  simp
theorem usedO_take {os : List Oc} {k : Nat} (h : k < os.length) : usedO (os.take (k + 1)) = usedO (os.take k) + (1 + usedS os[k].L) := by
  unfold usedO
  rw [List.map_take, List.map_take, usedC_take (by simpa using h)]
  simp
theorem usedO_all (os : List Oc) : os.length ≤ usedO os ∧ ∀ o ∈ os, o.L.length ≤ usedO os ∧ ∀ s ∈ o.L, s.length ≤ usedO os := by
  obtain ⟨h1, h2⟩ := usedC_all (os.map (fun o => usedS o.L))
  refine ⟨by simpa [usedO] using h1, fun o ho => ?_⟩
  have h3 : usedS o.L ≤ usedO os := h2 _ (List.mem_map.2 ⟨o, ho, rfl⟩)
  obtain ⟨h4, h5⟩ := usedC_all (o.L.map List.length)
  refine ⟨by have : o.L.length ≤ usedS o.L := by simpa [usedS] using h4
             omega, fun s hs => ?_⟩
  have : s.length ≤ usedS o.L := h5 _ (List.mem_map.2 ⟨s, hs, rfl⟩)
  omega
/-- what parts answers -/
def PartsO (pn : Nat) (cs : List Nat) (os : List Oc) (r : Int) : Prop := 0 ≤ r → pn ≤ 100000 ∧ cs.length ≤ 100000 ∧ (∀ c ∈ cs, c ≤ 100000) ∧ os.length ≤ 100000 ∧ ∀ o ∈ os, o.L.length ≤ 100000 ∧ ∀ s ∈ o.L, s.length ≤ 100000
set_option maxRecDepth 100000 in
set_option maxHeartbeats 2000000 in
theorem partsO_any (G : Nat → Prop) (w : World) (cap : Int) (rs : Bool) (lt : Int) (pa : Option Addr) (pn pc : Nat) (ca : Option Addr) (cn cc : Nat) (cs : List Nat) (ao : Option Addr) (n c : Nat) (os : List Oc)
    (hcn : cn = cs.length) (hn : n = os.length) (hch : ChsAt w ca cs) (hops : OpsAt G w ao os) (hp : pn ≤ 140737488351232) (hc : cn ≤ 140737488351232) (ho : n ≤ 140737488351232) :
    Calls Tryz.prog 4 #[.agg #[.int .i64 cap, .bool rs, .int .i64 lt, .slice pa pn pc, .slice ca cn cc], .slice ao n c] w fun e w' => ∃ r : Int, e = .returned (.int .i64 r) ∧ PartsO pn cs os r ∧ Below w.heap.size w w' := by
  obtain ⟨W1, hW1⟩ : ∃ W1, W1 = w.alloc (.cells #[.int .i64 cap, .bool rs, .int .i64 lt, .slice pa pn pc, .slice ca cn cc] 27) := ⟨_, rfl⟩
  obtain ⟨Kb, hKb⟩ : ∃ Kb, Kb = w.heap.size := ⟨_, rfl⟩
  have HB : Hid (Below w.heap.size w W1 ∧ W1.heap[Kb]? = some (.cells #[.int .i64 cap, .bool rs, .int .i64 lt, .slice pa pn pc, .slice ca cn cc] 27 (0, 0))) := by
    rw [hW1, hKb]
    exact ⟨(Below.refl _ _).alloc (Nat.le_refl _) _, heap_alloc_new _ _ rfl⟩
  have k3 : W1.cell? ⟨Kb, 3, none⟩ = some (.slice pa pn pc) := by have h1 := HB.out.2; simp [World.cell?, h1]
  have k4 : W1.cell? ⟨Kb, 4, none⟩ = some (.slice ca cn cc) := by have h1 := HB.out.2; simp [World.cell?, h1]
  have HC : Hid (ChsAt W1 ca cs) := hch.below HB.out.1
  have HO : Hid (OpsAt G W1 ao os) := hops.fr (Fr.ofBelow HB.out.1)
  have HN : Hid (cn = cs.length ∧ n = os.length) := ⟨hcn, hn⟩
  clear hch hops hcn hn
  go_enter Tryz.func4, Tryz.ntmps4
  go_wp2_with fail
  rw [← hW1, ← hKb]
  have HW : Hid (Below w.heap.size w W1) := HB.out.1
  clear hW1 hKb HB
  have hwp : IntKind.i64.wrap (100000 - (pn : Int)) = 100000 - (pn : Int) := by rw [IntKind.wrap_i64]; omega
  go_loopw [5, 6] (fun x y wr => ∃ (k : Nat) (r : Int), k ≤ cn ∧ x = .int .i64 r ∧ y = .int .i64 (k : Int) ∧ Hid (r = 100000 - (pn : Int) - (usedC (cs.take k) : Int)) ∧ r ≤ 100000 ∧ -300000000000000 ≤ r ∧ wr = W1) (fun _ y _ => cn - (intOf y).toNat)
  case atStart => exact ⟨0, 100000 - (pn : Int), Nat.zero_le _, by rw [← hwp], rfl, by simp [Hid, usedC], by omega, by omega, rfl⟩
  case round =>
    obtain ⟨k, r, hk, rfl, rfl, HRe, hr1, hr2, hwr⟩ := hrel
    subst wr
    by_cases hgo : k < cn ∧ 0 ≤ r
    · have hlt := hgo.1
      have hr0 := hgo.2
      have hlt' : k < cs.length := by have := HN.out.1; omega
      obtain ⟨b, off, sa, sc, rfl, c2, hbig⟩ := HC.out k hlt'
      have HU : Hid (usedC (cs.take (k + 1)) = usedC (cs.take k) + (1 + cs[k])) := usedC_take hlt'
      generalize cs[k] = na at *
      have hw1 : IntKind.i64.wrap (r - 1) = r - 1 := by rw [IntKind.wrap_i64]; omega
      have hw2 : IntKind.i64.wrap (r - 1 - (na : Int)) = r - 1 - (na : Int) := by rw [IntKind.wrap_i64]; omega
      have HR2 : Hid (r - 1 - (na : Int) = 100000 - (pn : Int) - (usedC (cs.take (k + 1)) : Int)) := by rw [HU.out, HRe.out]; show _ = _; omega
      clear HU HRe
      go_wp2_with fail
      exact ⟨⟨k + 1, r - 1 - (na : Int), by omega, rfl, by go_num, HR2, by omega, by omega, by first | rfl | trivial⟩, by simp [intOf]; omega⟩
    · have HP1 : Hid (0 ≤ r → pn ≤ 100000 ∧ cs.length ≤ 100000 ∧ ∀ c ∈ cs, c ≤ 100000) := fun h => by
        have hu := HRe.out
        rw [List.take_of_length_le (by have := HN.out.1; omega)] at hu
        obtain ⟨h1, h2⟩ := usedC_all cs
        refine ⟨by omega, by omega, fun x hx => ?_⟩
        have := h2 x hx
        omega
      clear HRe
      rcases (by omega : ¬ (k < cn) ∨ (k < cn ∧ r < 0)) with hx | ⟨hx, hx2⟩
      all_goals
        go_wp2_with fail
        clear hgo k3 k4 HC
        generalize hr9 : r = R at *
        clear hr9
        go_loopw [5, 7, 8] (fun x y _ wr => ∃ (k : Nat) (r : Int), k ≤ n ∧ x = .int .i64 r ∧ y = .int .i64 (k : Int) ∧ Hid (0 ≤ r → r + (usedO (os.take k) : Int) = R) ∧ r ≤ 100000 ∧ -300000000000000 ≤ r ∧ wr = W1) (fun _ y _ _ => n - (intOf y).toNat)
        case atStart => exact ⟨0, R, Nat.zero_le _, rfl, rfl, by simp [Hid, usedO, usedC], by omega, by omega, rfl⟩
        case round =>
          clear hx
          obtain ⟨i, r, hi, rfl, rfl, HRe, hs1, hs2, hwr⟩ := hrel
          subst wr
          by_cases hgo : i < n ∧ 0 ≤ r
          · have hlt := hgo.1
            have hr0 := hgo.2
            have hlt' : i < os.length := by have := HN.out.2; omega
            obtain ⟨b, off, rfl, hoc⟩ := HO.out i hlt'
            have HU : Hid (usedO (os.take (i + 1)) = usedO (os.take i) + (1 + usedS os[i].L)) := usedO_take hlt'
            have c1 := hoc.c1
            have HRw := hidC hoc.ws
            have hbig := hoc.big
            have HBs := hidC hoc.bigs
            clear hoc
            generalize os[i] = o at *
            obtain ⟨ln, hln⟩ : ∃ ln, ln = o.L.length := ⟨_, rfl⟩
            rw [← hln] at c1 hbig
            have HLn := hidC hln
            clear hln hgo
            have hw1 : IntKind.i64.wrap (r - 1) = r - 1 := by rw [IntKind.wrap_i64]; omega
            go_wp2_with fail
            go_loopw [5, 8] (fun x y wr => ∃ (j : Nat) (r' : Int), j ≤ ln ∧ x = .int .i64 r' ∧ y = .int .i64 (j : Int) ∧ Hid (0 ≤ r' → r' + (usedS (o.L.take j) : Int) = r - 1) ∧ r' ≤ 100000 ∧ -300000000000000 ≤ r' ∧ wr = W1) (fun _ y _ => ln - (intOf y).toNat)
            case atStart => exact ⟨0, r - 1, Nat.zero_le _, rfl, rfl, by simp [Hid, usedS, usedC], by omega, by omega, rfl⟩
            case round =>
              obtain ⟨j, r', hj, rfl, rfl, HRj, hj1, hj2, hwr⟩ := hrel
              subst wr
              by_cases hgo : j < ln ∧ 0 ≤ r'
              · have hjlt := hgo.1
                have hjr := hgo.2
                have hjl : j < o.L.length := by have := HLn.out; omega
                obtain ⟨b', off', sa, sc, e, _, _, c1', _, _⟩ := HRw.out j hjl
                rw [e] at c1
                have HV : Hid (usedS (o.L.take (j + 1)) = usedS (o.L.take j) + (1 + o.L[j].length)) := usedS_take hjl
                have hb2 : o.L[j].length ≤ 8796093022208 := HBs.out _ (List.getElem_mem hjl)
                generalize o.L[j].length = na at *
                have HR2 : Hid (0 ≤ r' - 1 - (na : Int) → r' - 1 - (na : Int) + (usedS (o.L.take (j + 1)) : Int) = r - 1) := fun h => by
                  have := HRj.out hjr
                  have := HV.out
                  omega
                have hv1 : IntKind.i64.wrap (r' - 1) = r' - 1 := by rw [IntKind.wrap_i64]; omega
                have hv2 : IntKind.i64.wrap (r' - 1 - (na : Int)) = r' - 1 - (na : Int) := by rw [IntKind.wrap_i64]; omega
                clear HV HRj hgo
                go_wp2_with fail
                exact ⟨⟨j + 1, r' - 1 - (na : Int), by omega, rfl, by go_num, HR2, by omega, by omega, by first | rfl | trivial⟩, by simp [intOf]; omega⟩
              · have HX : Hid (0 ≤ r' → r' + (usedO (os.take (i + 1)) : Int) = R) := fun h => by
                  have h1 := HRe.out hr0
                  have h2 := HRj.out h
                  rw [List.take_of_length_le (by have := HLn.out; omega)] at h2
                  have h3 := HU.out
                  omega
                clear HRj HRe HU
                rcases (by omega : ¬ (j < ln) ∨ (j < ln ∧ r' < 0)) with hx | ⟨hx, hx3⟩
                all_goals
                  go_wp2_with fail
                  exact ⟨⟨i + 1, r', by omega, rfl, by go_num, HX, by omega, by omega, by first | rfl | trivial⟩, by simp [intOf]; omega⟩
          · have HX : Hid (PartsO pn cs os r) := fun h => by
              have h1 := HRe.out h
              rw [List.take_of_length_le (by have := HN.out.2; omega)] at h1
              obtain ⟨h2, h3⟩ := usedO_all os
              obtain ⟨h4, h5, h6⟩ := HP1.out (by omega)
              refine ⟨h4, h5, h6, by omega, fun o ho => ⟨?_, fun s hs => ?_⟩⟩
              · have := (h3 o ho).1; omega
              · have := (h3 o ho).2 s hs; omega
            clear HRe
            rcases (by omega : ¬ (i < n) ∨ (i < n ∧ r < 0)) with hx | ⟨hx, hx3⟩
            all_goals
              go_wp2
              go_ret
              exact ⟨r, rfl, HX.out, HW.out⟩
end Go.Proofs.YtbmohlkcmhhpgaaGreat
/-
  lent: A BATCH's SETS OF WRITES IN MEMORY OF THEIR OWN.
-/
namespace Go.Proofs.YtbmohlkcmhhpgaaGreat
open Go.RowKit Go.Sort

theorem infoLsB : (Tryz.prog.info? 51).map (fun i => (i.zero, i.size, i.bytes)) = some (some (.slice none 0 0), 1, 24) := by kernel_rfl
theorem make_lsB (c : Nat) (C : Int) (hC : C = c) (hc : c ≤ 200000) (u : World) : (Instr.makeSlice 36 (.int .i64 C) (.int .i64 C)).run Tryz.prog u =
    .ok (.slice (some ⟨u.heap.size, 0, none⟩) c c) (u.alloc (.cells ((List.range c).map fun _ => Value.slice none 0 0).toArray 51)) := by
  subst hC
  obtain ⟨i0, hi, hz0, hz1, hz2⟩ := info_parts infoLsB
  have h := run_make (P := Tryz.prog) u 36 51 i0 (.slice none 0 0) Tryz.underlying36 hi hz0 .i64 .i64 (c : Int) (c : Int) (by omega) (Int.le_refl _) (by rw [hz2]; omega) (by omega)
  have e : madeCells #[.slice none 0 0] c = ((List.range c).map fun _ => Value.slice none 0 0).toArray := by
    apply Array.ext'
    apply List.ext_getElem?
    intro j
    by_cases hj : j < c
    · simp [madeCells, hj, Nat.mod_one]
    · simp [madeCells, hj]
  rw [← e]
  simpa [hz1, Value.cells] using h
theorem run_eqNilL (ao : Option Addr) (n c : Nat) (w : World) : (binOp .eql 36 (.slice ao n c) (.slice none 0 0)).run Tryz.prog w = .ok (.bool ao.isNone) w := by
  simp only [binOp]
  simp [run_equal_slice_nil w 36 51 ao n c Tryz.underlying36]
/-- a row of lists in block g, the first k of L's -/
structure LR (w W : World) (g N k : Nat) (L : List (List K)) (vs : Nat → Value) : Prop where
  row : W.heap[g]? = some (.cells ((List.range N).map vs).toArray 51 (0, 0))
  sets : ∀ i (hi : i < L.length), i < k → ∃ sa sc, vs i = .slice sa L[i].length sc ∧ KeysAt W sa L[i] ∧ ∀ a, L[i] ≠ [] → sa = some a → g < a.block ∧ a.block < W.heap.size
  bel : Below w.heap.size w W
  ge : w.heap.size ≤ g
theorem KeysAt.to {W W' : World} {sa : Option Addr} {s : List K} (h : KeysAt W sa s) (hb : ∀ a, s ≠ [] → sa = some a → W'.heap[a.block]? = W.heap[a.block]?) : KeysAt W' sa s := by
  rcases h with h0 | ⟨b, off, e, hc⟩
  · exact .inl h0
  · by_cases hne : s = []
    · exact .inl hne
    · refine .inr ⟨b, off, e, fun j u hu => ?_⟩
      have h7 := hc j u hu
      have he := hb _ hne e
      simp only at he
      unfold World.cell? at h7 ⊢
      simp only at h7 ⊢
      rw [he]
      exact h7
theorem LR.lt {w W : World} {g N k : Nat} {L : List (List K)} {vs : Nat → Value} (h : LR w W g N k L vs) : g < W.heap.size := blk_lt h.row
theorem LR.kept {w W W' : World} {g N k : Nat} {L : List (List K)} {vs : Nat → Value} (h : LR w W g N k L vs) (hb : Below W.heap.size W W') : LR w W' g N k L vs :=
  ⟨(hb.block _ h.lt).trans h.row, fun i hi hk => by
    obtain ⟨sa, sc, h1, h2, h3⟩ := h.sets i hi hk
    exact ⟨sa, sc, h1, h2.to (fun a ha hs => hb.block _ (h3 a ha hs).2), fun a ha hs => ⟨(h3 a ha hs).1, Nat.lt_of_lt_of_le (h3 a ha hs).2 hb.size⟩⟩, h.bel.trans (hb.mono h.bel.size), h.ge⟩
theorem LR.cell {w W : World} {g N k : Nat} {L : List (List K)} {vs : Nat → Value} (h : LR w W g N k L vs) {i : Nat} (hi : i < N) : W.cell? ⟨g, i, none⟩ = some (vs i) ∧ W.frozen? ⟨g, i, none⟩ = false := by
  have h1 := h.row
  refine ⟨?_, frozen_of_row W g i _ _ h1⟩
  simp [World.cell?, h1, hi]
theorem LR.set {w W : World} {g N k : Nat} {L : List (List K)} {vs : Nat → Value} (h : LR w W g N k L vs) (i : Nat) (v : Value) (k' : Nat)
    (hs : ∀ j, j < L.length → j < k' → j ≠ i → j < k) (hv : ∀ (hi : i < L.length), i < k' → ∃ sa sc, v = .slice sa L[i].length sc ∧ KeysAt W sa L[i] ∧ ∀ a, L[i] ≠ [] → sa = some a → g < a.block ∧ a.block < W.heap.size) :
    LR w (W.setCell ⟨g, i, none⟩ v) g N k' L (fun j => if j = i then v else vs j) := by
  have ho : ∀ G, G ≠ g → (W.setCell ⟨g, i, none⟩ v).heap[G]? = W.heap[G]? := fun G hG => heap_setCell_other W ⟨g, i, none⟩ G v hG
  have hz : (W.setCell ⟨g, i, none⟩ v).heap.size = W.heap.size := by simp
  refine ⟨?_, fun j hj hk => ?_, ?_, h.ge⟩
  · rw [heap_setCell_same W g i _ _ v h.row]
    congr 2
    apply Array.ext'
    apply List.ext_getElem?
    intro j
    by_cases hj : j < N
    · by_cases hji : j = i
      · subst hji; simp [hj]
      · simp only [Array.toList_setIfInBounds, List.getElem?_set_ne (Ne.symm hji), List.getElem?_map, List.getElem?_range hj, Option.map_some, if_neg hji]
    · simp [hj]
  · have key : ∀ {sa : Option Addr}, KeysAt W sa L[j] → (∀ a, L[j] ≠ [] → sa = some a → g < a.block ∧ a.block < W.heap.size) → KeysAt (W.setCell ⟨g, i, none⟩ v) sa L[j] := fun h2 h3 => h2.to (fun a ha hs => ho _ (by have := (h3 a ha hs).1; omega))
    by_cases hji : j = i
    · subst hji
      obtain ⟨sa, sc, h1, h2, h3⟩ := hv hj hk
      exact ⟨sa, sc, by rw [if_pos rfl, h1], key h2 h3, fun a ha hs => by rw [hz]; exact h3 a ha hs⟩
    · obtain ⟨sa, sc, h1, h2, h3⟩ := h.sets j hj (hs j hj hk hji)
      exact ⟨sa, sc, by rw [if_neg hji, h1], key h2 h3, fun a ha hs => by rw [hz]; exact h3 a ha hs⟩
  · refine h.bel.trans ⟨rfl, rfl, rfl, by simp, fun k hk => ho k (by have := h.ge; omega)⟩
theorem LR.rws {w W : World} {g N : Nat} {L : List (List K)} {vs : Nat → Value} (h : LR w W g N L.length L vs) (hN : L.length ≤ N) : RWs (fun k => k < w.heap.size) W (some ⟨g, 0, none⟩) L := fun i hi => by
  obtain ⟨sa, sc, h1, h2, h3⟩ := h.sets i hi hi
  have := h.ge
  refine ⟨g, 0, sa, sc, rfl, by omega, h.lt, ?_, h2, fun a ha hs => ⟨by have := (h3 a ha hs).1; omega, (h3 a ha hs).2⟩⟩
  rw [Nat.zero_add, (h.cell (by omega)).1, h1]
set_option maxHeartbeats 2000000 in
set_option maxRecDepth 100000 in
theorem lentW_any (G : Nat → Prop) (w : World) (ao : Option Addr) (n c : Nat) (L : List (List K)) (hn : n = L.length) (h : RWs G w ao L) (hnb : n ≤ 100000) (hb : ∀ s ∈ L, s.length ≤ 100000) :
    Calls Tryz.prog 16 #[.slice ao n c] w fun e w' => ∃ a c', e = .returned (.slice a n c') ∧ RWs (fun k => k < w.heap.size) w' a L ∧ Below w.heap.size w w' := by
  have HN : Hid (n = L.length ∧ ∀ s ∈ L, s.length ≤ 100000) := ⟨hn, hb⟩
  cases ao with
  | none =>
    have hL : L = [] := by
      rcases L with _ | ⟨s, L⟩
      · rfl
      · obtain ⟨_, _, _, _, e, _⟩ := h 0 (by simp); cases e
    subst hL
    have hn0 : n = 0 := hn
    clear h hn hb
    subst hn0
    have hnil := run_eqNilL none 0 c
    simp only [Option.isNone_none] at hnil
    go_enter Tryz.func16, Tryz.ntmps16
    go_wp2
    go_ret
    exact ⟨none, 0, rfl, fun i hi => by simp at hi, Below.refl _ _⟩
  | some a =>
    have hnil := run_eqNilL (some a) n c
    simp only [Option.isNone_some] at hnil
    have hmk := make_lsB (n + 3) ((n : Int) + 3) (by omega) (by omega) w
    have HR : Hid (∀ W, Below w.heap.size w W → RWs G W (some a) L) := fun W hW => h.fr (Fr.ofBelow hW)
    have HL0 : Hid (LR w (w.alloc (.cells ((List.range (n + 3)).map fun _ => Value.slice none 0 0).toArray 51)) w.heap.size (n + 3) 0 L (fun _ => .slice none 0 0)) :=
      ⟨heap_alloc_new _ _ rfl, fun i _ h => absurd h (by omega), (Below.refl _ _).alloc (Nat.le_refl _) _, Nat.le_refl _⟩
    clear h hn hb
    obtain ⟨g, hg⟩ : ∃ g, g = w.heap.size := ⟨_, rfl⟩
    generalize (w.alloc (.cells ((List.range (n + 3)).map fun _ => Value.slice none 0 0).toArray 51)) = W1 at *
    have HL1 : Hid (LR w W1 g (n + 3) 0 L (fun _ => .slice none 0 0)) := by rw [hg]; exact HL0
    rw [← hg] at hmk
    clear hg HL0
    go_enter Tryz.func16, Tryz.ntmps16
    go_wp2_with fail
    clear hmk
    go_loopw [4, 5, 6] (fun x _ _ wr => ∃ i : Nat, i ≤ n ∧ x = .int .i64 (i : Int) ∧ Hid (∃ vs, LR w wr g (n + 3) i L vs ∧ ∀ j, i ≤ j → vs j = .slice none 0 0)) (fun x _ _ _ => n - (intOf x).toNat)
    case atStart => exact ⟨0, Nat.zero_le _, rfl, _, HL1.out, fun _ _ => rfl⟩
    case round =>
      clear HL1
      obtain ⟨i, hi, rfl, HI⟩ := hrel
      by_cases hlt : i < n
      · have hil : i < L.length := by have := HN.out.1; omega
        obtain ⟨vs, HV⟩ := HI.out
        replace HV := hidC HV
        obtain ⟨b, off, sa, sc, e, _, hrow⟩ := (HR.out wr HV.out.1.bel).at hil
        cases e
        have HRow : Hid (∀ W, Below wr.heap.size wr W → W.cell? ⟨b, off + i, none⟩ = some (.slice sa L[i].length sc) ∧ KeysAt W sa L[i]) := fun W hW => hrow W (Fr.ofBelow hW)
        have hsb : L[i].length ≤ 100000 := HN.out.2 _ (List.getElem_mem hil)
        obtain ⟨s, hs⟩ : ∃ s, s = L[i] := ⟨_, rfl⟩
        have HE : Hid (∃ hi : i < L.length, L[i]'hi = s) := ⟨hil, hs.symm⟩
        clear hrow HI
        rw [← hs] at HRow hsb
        clear hs
        obtain ⟨m, hm⟩ : ∃ m, m = s.length := ⟨_, rfl⟩
        have HM := hidC hm
        rw [← hm] at HRow hsb
        clear hm
        have c1 := (HRow.out wr (Below.refl _ _)).1
        have hii : (i : Int) < (n : Int) := by omega
        cases sa with
        | none =>
          have hnk := run_eqNil none m sc
          simp only [Option.isNone_none] at hnk
          have HX : Hid (∃ vs, LR w wr g (n + 3) (i + 1) L vs ∧ ∀ j, i + 1 ≤ j → vs j = .slice none 0 0) := by
            refine ⟨vs, ⟨HV.out.1.row, fun j hj hk => ?_, HV.out.1.bel, HV.out.1.ge⟩, fun j hj => HV.out.2 j (by omega)⟩
            by_cases hji : j = i
            · subst hji
              obtain ⟨_, he⟩ := HE.out
              have hs : s = [] := by
                rcases (HRow.out wr (Below.refl _ _)).2 with h0 | ⟨_, _, e, _⟩
                · exact h0
                · cases e
              rw [hs] at he
              exact ⟨none, 0, by rw [HV.out.2 j (Nat.le_refl _), he]; rfl, .inl he, fun a h => absurd he h⟩
            · exact HV.out.1.sets j hj (by omega)
          clear HV HRow HE
          go_wp2_with fail
          exact ⟨⟨i + 1, by omega, by go_num, HX.out⟩, by simp [intOf]; omega⟩
        | some sa =>
          have hnk := run_eqNil (some sa) m sc
          simp only [Option.isNone_some] at hnk
          have hmk := make_keys (m + 3) ((m : Int) + 3) (by omega) (by omega) wr
          have HB2 : Hid (Below wr.heap.size wr (wr.alloc (.cells (cks (List.replicate (m + 3) (0, 0))).toArray 43))) := (Below.refl _ _).alloc (Nat.le_refl _) _
          have hcp := fun ty => run_copy_keys (wr.alloc (.cells (cks (List.replicate (m + 3) (0, 0))).toArray 43)) ty wr.heap.size (m + 3) (m + 3) sa m sc s (List.replicate (m + 3) (0, 0)) HM.out (by simp) (by omega) (heap_alloc_new _ _ rfl) (HRow.out _ HB2.out).2 (s ++ List.replicate 3 (0, 0)) (by rw [List.drop_replicate, show m + 3 - m = 3 by omega])
          have HB3 : Hid (Below wr.heap.size wr ((wr.alloc (.cells (cks (List.replicate (m + 3) (0, 0))).toArray 43)).setRow wr.heap.size (cks (s ++ List.replicate 3 (0, 0))).toArray)) := setRow_below (Nat.le_refl _) (Nat.le_refl _)
          have HO : Hid (OwnK ((wr.alloc (.cells (cks (List.replicate (m + 3) (0, 0))).toArray 43)).setRow wr.heap.size (cks (s ++ List.replicate 3 (0, 0))).toArray) wr.heap.size (own wr.heap.size (m + 3) (m + 3)) (s ++ List.replicate 3 (0, 0))) := by
            have h1 := OwnK.of_row (w := (wr.alloc (.cells (cks (List.replicate (m + 3) (0, 0))).toArray 43)).setRow wr.heap.size (cks (s ++ List.replicate 3 (0, 0))).toArray) (base := wr.heap.size) (Nat.le_refl _) (setRow_heap _ wr.heap.size _ _ _ _ (heap_alloc_new _ _ rfl)) (Z := s ++ List.replicate 3 (0, 0)) (by rw [List.length_append, List.length_replicate, ← HM.out]; unfold maxLen; omega)
            rw [List.length_append, List.length_replicate, ← HM.out] at h1
            exact h1
          generalize ((wr.alloc (.cells (cks (List.replicate (m + 3) (0, 0))).toArray 43)).setRow wr.heap.size (cks (s ++ List.replicate 3 (0, 0))).toArray) = W3 at *
          generalize (wr.alloc (.cells (cks (List.replicate (m + 3) (0, 0))).toArray 43)) = W2 at *
          obtain ⟨q, hq⟩ : ∃ q, q = wr.heap.size := ⟨_, rfl⟩
          have HQ := hidC hq
          have HO3 : Hid (OwnK W3 q (own q (m + 3) (m + 3)) (s ++ List.replicate 3 (0, 0))) := by rw [hq]; exact HO
          rw [← hq] at hmk hcp
          clear hq HO
          have c2 := (HRow.out W2 HB2.out).1
          have c3 := (HRow.out W3 HB3.out).1
          go_wp2_with fail
          clear hmk hcp c1 c2 c3 hnk
          generalize wr = u at *
          go_loopw [6] (fun x wr => ∃ j : Nat, m ≤ j ∧ j ≤ m + 3 ∧ x = .int .i64 (j : Int) ∧ Hid (Below u.heap.size u wr ∧ ∃ M, OwnK wr q (own q (m + 3) (m + 3)) M ∧ M.take m = s)) (fun x _ => m + 3 - (intOf x).toNat)
          case atStart => exact ⟨m, Nat.le_refl _, by omega, rfl, HB3.out, _, HO3.out, by rw [HM.out, List.take_left]⟩
          case round =>
            clear HB2 HB3 HO3
            obtain ⟨j, hj1, hj2, rfl, HJ⟩ := hrel
            obtain ⟨M, HMm⟩ := HJ.out.2
            replace HMm := hidC HMm
            have HBq := hidC HJ.out.1
            clear HJ
            by_cases hjlt : j < m + 3
            · have hjlt2 : (j : Int) < (m : Int) + 3 := by omega
              obtain ⟨e1, e2⟩ := HMm.out.1.at j hjlt
              have f1 := HMm.out.1.frozen (j * 2)
              have f2 := HMm.out.1.frozen (j * 2 + 1)
              generalize kd M j = ok at *
              obtain ⟨o1, o2⟩ := ok
              simp only at e1 e2
              have HO2 : Hid (Below u.heap.size u ((wr.setCell ⟨q, j * 2, none⟩ (.int .i64 (-41))).setCell ⟨q, j * 2 + 1, none⟩ (.int .i64 0)) ∧ ∃ M, OwnK ((wr.setCell ⟨q, j * 2, none⟩ (.int .i64 (-41))).setCell ⟨q, j * 2 + 1, none⟩ (.int .i64 0)) q (own q (m + 3) (m + 3)) M ∧ M.take m = s) := by
                obtain ⟨h1, h2⟩ := HMm.out.1.set j hjlt (-41) 0
                refine ⟨HBq.out.trans (grown_below h2 (fun b e => by cases e; exact Nat.le_of_eq HQ.out.symm) HBq.out.size), _, h1, ?_⟩
                rw [← HMm.out.2]
                apply List.ext_getElem?
                intro t
                by_cases ht : t < m
                · rw [List.getElem?_take_of_lt ht, List.getElem?_take_of_lt ht, List.getElem?_set_ne (by omega)]
                · rw [List.getElem?_eq_none (by rw [List.length_take]; omega), List.getElem?_eq_none (by rw [List.length_take]; omega)]
              clear HMm HBq
              go_wp2_with fail
              exact ⟨⟨j + 1, by omega, by omega, by go_num, HO2.out⟩, by simp [intOf]; omega⟩
            · have hje : j = m + 3 := by omega
              subst hje
              have HLq : Hid (LR w wr g (n + 3) i L vs) := HV.out.1.kept HBq.out
              obtain ⟨g1, g2⟩ := HLq.out.cell (i := i) (by omega)
              have hvi := HV.out.2 i (Nat.le_refl _)
              rw [hvi] at g1
              have c4 := (HRow.out wr HBq.out).1
              have HX : Hid (∃ vs, LR w (wr.setCell ⟨g, i, none⟩ (.slice (some ⟨q, 0, none⟩) m (m + 3))) g (n + 3) (i + 1) L vs ∧ ∀ j, i + 1 ≤ j → vs j = .slice none 0 0) := by
                refine ⟨_, HLq.out.set i _ (i + 1) (fun j _ h1 h2 => by omega) (fun hi _ => ?_), fun j hj => by rw [if_neg (by omega)]; exact HV.out.2 j (by omega)⟩
                obtain ⟨_, he⟩ := HE.out
                have hp := HMm.out.1.prefix m (by omega)
                rw [HMm.out.2] at hp
                have hq1 := HMm.out.1.lt q rfl
                have hq2 := HV.out.1.lt
                have hq3 := HQ.out
                refine ⟨some ⟨q, 0, none⟩, m + 3, by rw [he, ← HM.out], by rw [he]; exact hp.lst_at, fun a _ e => ?_⟩
                cases e
                exact ⟨by show g < q; omega, hq1.2⟩
              clear HLq HMm HBq HV hvi
              go_wp2_with fail
              exact ⟨⟨i + 1, by omega, by go_num, HX.out⟩, by simp [intOf]; omega⟩
      · have hie : i = n := by omega
        subst hie
        obtain ⟨vs, HV⟩ := HI.out
        replace HV := hidC HV.1
        clear HI
        go_wp2_with fail
        go_loopw [7] (fun x wr => ∃ j : Nat, i ≤ j ∧ j ≤ i + 3 ∧ x = .int .i64 (j : Int) ∧ Hid (∃ vs, LR w wr g (i + 3) i L vs)) (fun x _ => i + 3 - (intOf x).toNat)
        case atStart => exact ⟨i, Nat.le_refl _, by omega, rfl, vs, HV.out⟩
        case round =>
          clear HV
          obtain ⟨j, hj1, hj2, rfl, HJ⟩ := hrel
          obtain ⟨vs, HV⟩ := HJ.out
          replace HV := hidC HV
          clear HJ
          by_cases hjlt : j < i + 3
          · have hjlt2 : (j : Int) < (i : Int) + 3 := by omega
            have HLa : Hid (∀ o, LR w (wr.alloc o) g (i + 3) i L vs) := fun o => HV.out.kept ((Below.refl _ _).alloc (Nat.le_refl _) o)
            have g1 := fun o => ((HLa.out o).cell (i := j) hjlt).1
            have g2 := fun o => ((HLa.out o).cell (i := j) hjlt).2
            have HX : Hid (∀ o v, ∃ vs, LR w ((wr.alloc o).setCell ⟨g, j, none⟩ v) g (i + 3) i L vs) := fun o v => ⟨_, (HLa.out o).set j v i (fun _ _ h _ => h) (fun _ h => absurd h (by omega))⟩
            clear HV HLa
            go_wp2_with fail
            exact ⟨⟨j + 1, by omega, by omega, by go_num, HX.out _ _⟩, by simp [intOf]; omega⟩
          · have hje : j = i + 3 := by omega
            subst hje
            have HX : Hid (RWs (fun k => k < w.heap.size) wr (some ⟨g, 0, none⟩) L ∧ Below w.heap.size w wr) := by
              have h1 := HV.out
              have h2 := HN.out.1
              refine ⟨LR.rws (N := i + 3) (vs := vs) ?_ (by omega), h1.bel⟩
              rw [← h2]
              exact h1
            clear HV
            go_wp2
            go_ret
            exact ⟨_, _, rfl, HX.out.1, HX.out.2⟩
end Go.Proofs.YtbmohlkcmhhpgaaGreat
/-
  do: ONE CALL THAT CHANGES A BOOK.
-/
namespace Go.Proofs.YtbmohlkcmhhpgaaGreat
open Go.RowKit Go.Sort

/-- what a book holds -/
structure Bs where
  la : Int
  fl : Int
  pins : List (Int × Int)
  all : List V4
/-- one call: what it leaves, and whether it was refused -/
inductive DoR (cap : Int) (o : Oc) (s : Bs) : Bs → Bool → Prop
  | admNo : o.kind = 0 → admE cap s.la s.all o.L ≠ 0 → DoR cap o s s true
  | admYes : o.kind = 0 → admE cap s.la s.all o.L = 0 → DoR cap o s ⟨s.la + 1, s.fl, s.pins, s.all ++ newFrom (s.la + 1) 0 o.L⟩ false
  | pinNo : o.kind = 1 → pinE s.la s.fl s.pins o.m ≠ 0 → DoR cap o s s true
  | pinYes (p' : List (Int × Int)) : o.kind = 1 → pinE s.la s.fl s.pins o.m = 0 → Pinned s.pins p' o.m → DoR cap o s ⟨s.la, s.fl, p', s.all⟩ false
  | unpNo : o.kind = 2 → fpn s.pins o.m = none → DoR cap o s s true
  | unpYes (p' : List (Int × Int)) : o.kind = 2 → (fpn s.pins o.m).isSome = true → Unpinned s.pins p' o.m → DoR cap o s ⟨s.la, s.fl, p', s.all⟩ false
  | coll (d : List Int) (all' : List V4) : o.kind = 3 → d.Pairwise (· < ·) → d.Perm (s.pins.map Prod.fst) → CollN d s.all all' → DoR cap o s ⟨s.la, s.la, s.pins, all'⟩ false
  | oth : o.kind ≠ 0 → o.kind ≠ 1 → o.kind ≠ 2 → o.kind ≠ 3 → DoR cap o s s false
theorem RWs.weak {G G' : Nat → Prop} {w : World} {ao : Option Addr} {L : List (List K)} (h : RWs G w ao L) (hg : ∀ k, G' k → G k) : RWs G' w ao L := fun i hi => by
  obtain ⟨b, off, sa, sc, h1, h2, h3, h4, h5, h6⟩ := h i hi
  exact ⟨b, off, sa, sc, h1, fun h => h2 (hg _ h), h3, h4, h5, fun a ha hs => ⟨fun h => (h6 a ha hs).1 (hg _ h), (h6 a ha hs).2⟩⟩
/-- a call that is sound: its sets hold ints, and no more than parts lets through -/
structure OcOK (o : Oc) : Prop where
  len : o.L.length ≤ 100000
  each : ∀ s ∈ o.L, s.length ≤ 100000
  ik : ∀ s ∈ o.L, ∀ k ∈ s, KIn k
  im : In64 o.m
def opv (o : Oc) : Value := .agg #[.int .i64 o.kind, .slice o.a o.L.length o.c, .int .i64 o.m, .int .i64 o.k.1, .int .i64 o.k.2]
def DoPost (w : World) (B Mp Mc Mn : Nat) (cap : Int) (o : Oc) (s : Bs) (e : Ending) (w' : World) : Prop :=
  ∃ r s' nw', e = .returned (.bool r) ∧ DoR cap o s s' r ∧ BA w' B Mp Mc Mn cap s'.la s'.fl s'.pins s'.all nw' ∧ Fr (SB B Mp Mc Mn) w w'
end Go.Proofs.YtbmohlkcmhhpgaaGreat
/-
  works: A BOOK OF ROOM FOR THREE.
-/
namespace Go.Proofs.YtbmohlkcmhhpgaaGreat
open Go.RowKit Go.Sort

def wL : List (List K) := [[(0, 1)], [(0, 1)]]
def a1L : List V4 := [((0, 1), (1, 0)), ((0, 1), (1, 1))]
theorem rise_one : Rise [((0 : Int), (1 : Int))] := ⟨fun k hk => by simp at hk; subst hk; rfl, List.pairwise_singleton _ _⟩
theorem wL_form : formN wL = 0 := by
  unfold formN wL
  rw [if_neg (by decide)]
  show formL [[(0, 1)], [(0, 1)]] = 0
  simp only [formL]
  rw [if_neg (by decide), if_pos rise_one, if_neg (by decide), if_pos rise_one]
theorem works_adm1 : admE 3 0 [] wL = 0 := by unfold admE; rw [wL_form]; decide
theorem works_new1 : [] ++ newFrom (0 + 1) 0 wL = a1L := by decide
theorem works_adm2 : admE 3 1 a1L wL = 100 := by unfold admE; rw [wL_form]; decide
theorem works_coll {d : List Int} {all' : List V4} (hd : d.Perm (([] : List (Int × Int)).map Prod.fst)) (h : CollN d a1L all') : all'.length = 1 := by
  have hd0 : d = [] := List.Perm.eq_nil hd
  subst hd0
  have h1 := h.2 (0, 1)
  have h2 : ofV (0, 1) all' = all' := by
    unfold ofV
    rw [List.filter_eq_self]
    intro v hv
    have := h.1.subset hv
    simp [a1L] at this
    rcases this with rfl | rfl <;> simp
  rw [h2] at h1
  rw [h1]
  decide
theorem works_adm3 {all' : List V4} (h : all'.length = 1) : admE 3 1 all' wL = 0 := by unfold admE; rw [wL_form, h]; decide
theorem works_pin0 : pinE 2 1 [] 0 = 103 := by decide
theorem works_pin1 : pinE 2 1 [] 1 = 0 := by decide
theorem wL_in : ∀ s ∈ wL, ∀ k ∈ s, KIn k := by
  intro s hs k hk
  simp [wL] at hs
  subst hs
  simp at hk
  subst hk
  exact ⟨⟨by decide, by decide⟩, ⟨by decide, by decide⟩⟩
theorem wL_big : ∀ s ∈ wL, s.length ≤ 8796093022208 := by
  intro s hs
  simp [wL] at hs
  subst hs
  decide
section
variable {w : World} {B Mp Mc Mn : Nat} {nw : List K} {ao : Option Addr}
theorem wk1 (h : BA w B Mp Mc Mn 3 0 0 [] [] nw) (hw : RWs (SB B Mp Mc Mn) w ao wL) : Calls Tryz.prog 17 #[ptr B, .slice ao 2 2] w fun e w' => e = .returned (.tuple #[.int .i64 1, .int .i64 0]) ∧ (∃ nw', BA w' B Mp Mc Mn 3 1 0 [] a1L nw') ∧ Fr (SB B Mp Mc Mn) w w' := by
  refine (admit_any w B Mp Mc Mn 3 0 0 [] [] nw h ao 2 2 wL rfl hw wL_in wL_big (by omega)).mono ?_
  rintro e w' (⟨hne, _⟩ | ⟨_, he, ⟨nw', hba⟩, hf⟩)
  · exact absurd works_adm1 hne
  · rw [works_new1] at hba
    exact ⟨he, ⟨nw', hba⟩, hf⟩
theorem wk2 (h : BA w B Mp Mc Mn 3 1 0 [] a1L nw) (hw : RWs (SB B Mp Mc Mn) w ao wL) : Calls Tryz.prog 17 #[ptr B, .slice ao 2 2] w fun e w' => e = .returned (.tuple #[.int .i64 0, .int .i64 100]) ∧ Below w.heap.size w w' := by
  refine (admit_any w B Mp Mc Mn 3 1 0 [] a1L nw h ao 2 2 wL rfl hw wL_in wL_big (by omega)).mono ?_
  rintro e w' (⟨_, he, hb⟩ | ⟨hne, _⟩)
  · rw [works_adm2] at he
    exact ⟨he, hb⟩
  · rw [works_adm2] at hne
    cases hne
theorem wk3 (h : BA w B Mp Mc Mn 3 1 0 [] a1L nw) : Calls Tryz.prog 24 #[ptr B] w fun e w' => e = .returned (.int .i64 1) ∧ (∃ all' nw', all'.length = 1 ∧ BA w' B Mp Mc Mn 3 1 1 [] all' nw') ∧ Fr (SB B Mp Mc Mn) w w' := by
  refine (collect_any w B Mp Mc Mn 3 1 0 [] a1L nw h).mono ?_
  rintro e w' ⟨d, all', _, hd, hc, he, hba, hf⟩
  have h1 := works_coll hd hc
  rw [h1] at he
  exact ⟨he, ⟨all', nw, h1, hba⟩, hf⟩
theorem wk4 {all' : List V4} (h1 : all'.length = 1) (h : BA w B Mp Mc Mn 3 1 1 [] all' nw) (hw : RWs (SB B Mp Mc Mn) w ao wL) : Calls Tryz.prog 17 #[ptr B, .slice ao 2 2] w fun e w' => e = .returned (.tuple #[.int .i64 2, .int .i64 0]) ∧ (∃ all'' nw', all''.length = 3 ∧ BA w' B Mp Mc Mn 3 2 1 [] all'' nw') ∧ Fr (SB B Mp Mc Mn) w w' := by
  refine (admit_any w B Mp Mc Mn 3 1 1 [] all' nw h ao 2 2 wL rfl hw wL_in wL_big (by omega)).mono ?_
  rintro e w' (⟨hne, _⟩ | ⟨_, he, ⟨nw', hba⟩, hf⟩)
  · exact absurd (works_adm3 h1) hne
  · exact ⟨he, ⟨_, nw', by rw [List.length_append, newFrom_len, h1]; rfl, hba⟩, hf⟩
theorem wk5 {all' : List V4} (h : BA w B Mp Mc Mn 3 2 1 [] all' nw) : Calls Tryz.prog 20 #[ptr B, .int .i64 0] w fun e w' => e = .returned (.int .i64 103) ∧ w' = w := by
  refine (pin_any w B Mp Mc Mn 3 2 1 [] all' nw h 0 ⟨by decide, by decide⟩).mono ?_
  rintro e w' (⟨_, he, hb⟩ | ⟨hne, _⟩)
  · rw [works_pin0] at he
    exact ⟨he, hb⟩
  · rw [works_pin0] at hne
    cases hne
theorem wk6 {all' : List V4} (h : BA w B Mp Mc Mn 3 2 1 [] all' nw) : Calls Tryz.prog 20 #[ptr B, .int .i64 1] w fun e w' => e = .returned (.int .i64 0) ∧ Fr (SB B Mp Mc Mn) w w' := by
  refine (pin_any w B Mp Mc Mn 3 2 1 [] all' nw h 1 ⟨by decide, by decide⟩).mono ?_
  rintro e w' (⟨hne, _⟩ | ⟨_, he, _, _, _, hf⟩)
  · exact absurd works_pin1 hne
  · exact ⟨he, hf⟩
end
/-- the two sets, laid -/
def wW (u : World) : World := ((u.alloc (.cells #[.int .i64 0, .int .i64 1] 43)).alloc (.cells #[.int .i64 0, .int .i64 1] 43)).alloc (.cells #[.slice (some ⟨u.heap.size, 0, none⟩) 1 1, .slice (some ⟨u.heap.size + 1, 0, none⟩) 1 1] 51)
theorem wW_below (u : World) : Below u.heap.size u (wW u) := (((Below.refl _ _).alloc (Nat.le_refl _) _).alloc (by simp) _).alloc (by simp; omega) _
theorem wW_at (u : World) (G : Nat → Prop) (hG : ∀ k, G k → k < u.heap.size) : RWs G (wW u) (some ⟨u.heap.size + 1 + 1, 0, none⟩) wL := by
  have z : (wW u).heap.size = u.heap.size + 1 + 1 + 1 := by simp [wW]
  have k2 : (wW u).heap[u.heap.size + 1 + 1]? = some (.cells #[.slice (some ⟨u.heap.size, 0, none⟩) 1 1, .slice (some ⟨u.heap.size + 1, 0, none⟩) 1 1] 51 (0, 0)) := by
    unfold wW
    rw [show u.heap.size + 1 + 1 = ((u.alloc (.cells #[.int .i64 0, .int .i64 1] 43)).alloc (.cells #[.int .i64 0, .int .i64 1] 43)).heap.size by simp]
    exact heap_alloc_new _ _ rfl
  have k1 : (wW u).heap[u.heap.size + 1]? = some (.cells #[.int .i64 0, .int .i64 1] 43 (0, 0)) := by
    unfold wW
    rw [heap_alloc_old _ _ (by simp), show u.heap.size + 1 = (u.alloc (.cells #[.int .i64 0, .int .i64 1] 43)).heap.size by simp]
    exact heap_alloc_new _ _ rfl
  have k0 : (wW u).heap[u.heap.size]? = some (.cells #[.int .i64 0, .int .i64 1] 43 (0, 0)) := by
    unfold wW
    rw [heap_alloc_old _ _ (by simp; omega), heap_alloc_old _ _ (by simp)]
    exact heap_alloc_new _ _ rfl
  have ka : ∀ b, (wW u).heap[b]? = some (.cells #[.int .i64 0, .int .i64 1] 43 (0, 0)) → KeysAt (wW u) (some ⟨b, 0, none⟩) [(0, 1)] := fun b hb => .inr ⟨b, 0, rfl, fun j x hx => by
    rcases j with _ | _ | j
    · simp [cks] at hx; subst hx; simp [World.cell?, hb]
    · simp [cks] at hx; subst hx; simp [World.cell?, hb]
    · simp [cks] at hx⟩
  intro i hi
  have hg : ∀ b, u.heap.size ≤ b → ¬ G b := fun b hb h => by have := hG b h; omega
  rcases i with _ | _ | i
  · exact ⟨_, 0, some ⟨u.heap.size, 0, none⟩, 1, rfl, hg _ (by omega), by omega, by simp [World.cell?, k2, wL], ka _ k0, fun a _ e => by cases e; exact ⟨hg _ (by simp), by simp only; omega⟩⟩
  · exact ⟨_, 0, some ⟨u.heap.size + 1, 0, none⟩, 1, rfl, hg _ (by omega), by omega, by simp [World.cell?, k2, wL], ka _ k1, fun a _ e => by cases e; exact ⟨hg _ (by simp), by simp only; omega⟩⟩
  · simp [wL] at hi; omega
end Go.Proofs.YtbmohlkcmhhpgaaGreat
/-
  BookDoor: THE LAW.
-/
namespace Go.Proofs.YtbmohlkcmhhpgaaGreat
open Go.RowKit Go.Sort

/-- a script that is sound -/
def OpsIn (os : List Oc) : Prop := ∀ o ∈ os, (∀ s ∈ o.L, ∀ k ∈ s, KIn k) ∧ In64 o.m ∧ In64 o.kind ∧ KIn o.k
theorem formN_some (L : List (List K)) : formN L = 0 ∨ formN L = 60 ∨ formN L = 64 ∨ formN L = 65 := by
  have h : ∀ L : List (List K), formL L = 0 ∨ formL L = 64 ∨ formL L = 65 := by
    intro L
    induction L with
    | nil => exact .inl rfl
    | cons s l ih =>
      rw [show formL (s :: l) = if 16 < s.length then 64 else if Rise s then formL l else 65 from rfl]
      split
      · exact .inr (.inl rfl)
      · split
        · exact ih
        · exact .inr (.inr rfl)
  unfold formN
  split
  · exact .inr (.inl rfl)
  · rcases h L with h | h | h
    · exact .inl h
    · exact .inr (.inr (.inl h))
    · exact .inr (.inr (.inr h))
/-- the three ways of an Admit at the door -/
theorem adm_cases (cap la : Int) (all : List V4) (L : List (List K)) (hla : la ≤ 100000) :
    (wgtE L = -1 ∧ admE cap la all L ≠ 0 ∧ admE cap la all L ≠ 100) ∨
    (∃ g : Nat, g ≤ 1024 ∧ wgtE L = (g : Int) ∧ wgt L = g ∧ ((cap < (all.length : Int) + g ∧ admE cap la all L = 100) ∨ ((all.length : Int) + g ≤ cap ∧ admE cap la all L = 0))) := by
  by_cases hf : formN L = 0
  · have hk := formN_ok hf
    refine .inr ⟨wgt L, wgt_le hk.1 (fun s hs => (hk.2 s hs).1), wgtE_ok hf, rfl, ?_⟩
    have e : admE cap la all L = if cap < (all.length : Int) + (wgt L : Int) then 100 else 0 := by
      unfold admE
      rw [if_neg (by simp [hf]), if_neg (by omega)]
    by_cases h : cap < (all.length : Int) + (wgt L : Int)
    · exact .inl ⟨h, by rw [e, if_pos h]⟩
    · exact .inr ⟨by omega, by rw [e, if_neg h]⟩
  · have e : admE cap la all L = formN L := by unfold admE; rw [if_pos hf]
    refine .inl ⟨wgtE_bad rfl hf, by rw [e]; exact hf, ?_⟩
    rw [e]
    rcases formN_some L with h | h | h | h <;> rw [h] <;> decide
theorem tail_ch {W : World} {B Mp Mc Mn : Nat} {cap la fl x : Int} {pins : List (Int × Int)} {all : List V4} {nw : List K} (h : BA W B Mp Mc Mn cap la fl pins all nw) (e : (all.length : Int) = x) : Calls Tryz.prog 41 #[ptr B] W fun e w' => e = .returned (.int .i64 x) ∧ w' = W := by
  subst e
  exact charge_any W B Mp Mc Mn cap la fl pins all nw h
theorem tail_la {W : World} {B Mp Mc Mn : Nat} {cap la fl y : Int} {pins : List (Int × Int)} {all : List V4} {nw : List K} (h : BA W B Mp Mc Mn cap la fl pins all nw) (e : la = y) : Calls Tryz.prog 54 #[ptr B] W fun e w' => e = .returned (.int .i64 y) ∧ w' = W := by
  subst e
  exact latest_any W B Mp Mc Mn cap la fl pins all nw h
end Go.Proofs.YtbmohlkcmhhpgaaGreat
