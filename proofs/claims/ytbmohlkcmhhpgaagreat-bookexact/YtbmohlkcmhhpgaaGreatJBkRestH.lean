import Derived.Test.YtbmohlkcmhhpgaaGreatJBkFit
import Derived.Test.YtbmohlkcmhhpgaaGreatBkCount
import Derived.BigRegion
import Derived.Test.YtbmohlkcmhhpgaaGreatJBkRef1
import Derived.Test.YtbmohlkcmhhpgaaGreatBkApp
import Derived.Shelf.SlIterI.Nil
import Derived.Test.YtbmohlkcmhhpgaaGreatJBkCopy
import Derived.Test.YtbmohlkcmhhpgaaGreatBkSpoil
import Derived.Test.YtbmohlkcmhhpgaaGreatJBkWgt
import Derived.Test.YtbmohlkcmhhpgaaGreatJBkShortM
import Derived.Test.YtbmohlkcmhhpgaaGreatJKRefSet
/-
  Restore: THE MATHEMATICS.
-/
namespace Go.Proofs.YtbmohlkcmhhpgaaGreat
open Go.RowKit Go.Sort

section
variable {w : World} {B Mp Mc Mn : Nat} {cap latest floor : Int} {pins : List (Int × Int)} {all : List V4} {nw : List K}
/-- one pin more -/
theorem BA.addPin (h : BA w B Mp Mc Mn cap latest floor pins all nw) (p : Int × Int) (hp : 0 ≤ p.1 ∧ p.1 ≤ latest ∧ 1 ≤ p.2 ∧ p.2 ≤ 1099511627776) (hn : ∀ q ∈ pins, q.1 ≠ p.1) (hl : pins.length + 1 ≤ 32) :
    ∃ W, (Instr.mapUpdate 84 (.map (some Mp)) (.int .i64 p.1) (.int .i64 p.2)).run Tryz.prog w = .ok () W ∧ BA W B Mp Mc Mn cap latest floor (pins ++ [p]) all nw ∧ w.grownBy W (some Mp) := by
  have hla := h.la
  obtain ⟨W, h1, h2, h3⟩ := kdP.putNew h.mp (a := p.1) (by unfold In64; omega) (fun e he e' => by
    obtain ⟨q, hq, rfl⟩ := List.mem_map.1 he
    exact hn q hq e') (ei p.2)
  have hs : ∀ k, k < w.heap.size → k ≠ Mp → W.heap[k]? = w.heap[k]? := fun k hk hne => h3.block k hk (fun e => by cases e; exact hne rfl)
  refine ⟨W, h1, ⟨(hs B (blk_lt h.bk) h.Bne.1).trans h.bk, by simpa using h2, h.mc.same (hs _ h.mc.lt h.ne.1.symm), h.mn.same (hs _ h.mn.lt h.ne.2.1.symm), h.nwa, h.ne, h.cp, h.la, h.ln, h.pl, ⟨by simp; omega, fun q hq => ?_⟩, h.rs, h.ik⟩, h3⟩
  rcases List.mem_append.1 hq with hq | hq
  · exact h.ps.2 q hq
  · simp at hq; subst hq; exact hp
/-- the numbers are told -/
theorem BA.setNums (h : BA w B Mp Mc Mn cap 0 0 [] [] []) (la : Int) (hla : 0 ≤ la ∧ la ≤ 1099511627776) : BA ((w.setCell ⟨B, 1, none⟩ (.int .i64 la)).setCell ⟨B, 2, none⟩ (.int .i64 la)) B Mp Mc Mn cap la la [] [] [] := by
  have hne := h.Bne
  have hs : ∀ k, k ≠ B → ((w.setCell ⟨B, 1, none⟩ (.int .i64 la)).setCell ⟨B, 2, none⟩ (.int .i64 la)).heap[k]? = w.heap[k]? := fun k hk => (heap_setCell_other _ _ _ _ (fun e => hk e)).trans (heap_setCell_other _ _ _ _ (fun e => hk e))
  have h1 := heap_setCell_same w B 1 _ _ (.int .i64 la) h.bk
  have h2 := heap_setCell_same _ B 2 _ _ (.int .i64 la) h1
  refine ⟨h2, h.mp.same (hs _ hne.1.symm), h.mc.same (hs _ hne.2.1.symm), h.mn.same (hs _ hne.2.2.symm), h.nwa, h.ne, h.cp, by omega, h.ln, by simp, ⟨by simp, by simp⟩, by simp, by simp⟩
end
theorem pins_new {la : Int} {l : List (Int × Int)} (h : PnOK la l) {i : Nat} (hi : i < l.length) : (0 ≤ l[i].1 ∧ l[i].1 ≤ la ∧ 1 ≤ l[i].2 ∧ l[i].2 ≤ 1099511627776) ∧ (∀ q ∈ l.take i, q.1 ≠ l[i].1) ∧ (l.take i).length + 1 ≤ 32 ∧ l.take (i + 1) = l.take i ++ [l[i]] := by
  have hr := h.rise
  have h1 := h.2 i hi
  have hlt : ∀ j (hj : j < i), l[j].1 < l[i].1 := fun j hj => by
    have h2 := List.pairwise_iff_getElem.1 hr j i (by simp; omega) (by simpa using hi) hj
    simpa using h2
  refine ⟨⟨?_, h1.2⟩, fun q hq => ?_, ?_, List.take_succ_eq_append_getElem hi⟩
  · cases i with
    | zero => exact h1.1
    | succ n =>
      have h0 := (h.2 0 (by omega)).1
      have h2 := hlt 0 (by omega)
      simp only [loP] at h0
      omega
  · obtain ⟨j, hj, rfl⟩ := List.getElem_of_mem hq
    simp only [List.length_take] at hj
    simp only [List.getElem_take]
    have := hlt j (by omega)
    omega
  · have := h.1
    rw [List.length_take]
    omega
theorem snV_mem {l : List Ch} {u : V4} (h : u ∈ snV l) : ∃ c ∈ l, u.1 = c.k := by
  unfold snV at h
  rw [List.mem_flatMap] at h
  obtain ⟨c, hc, hu⟩ := h
  unfold chV at hu
  obtain ⟨v, _, rfl⟩ := List.mem_map.1 hu
  exact ⟨c, hc, rfl⟩
theorem snSize_take_le {l : List Ch} {i : Nat} (h : i < l.length) : snSize (l.take i) + l[i].l.length ≤ snSize l := by
  have e : l = l.take (i + 1) ++ l.drop (i + 1) := (List.take_append_drop _ _).symm
  have h1 : snSize l = snSize (l.take (i + 1)) + snSize (l.drop (i + 1)) := by
    unfold snSize
    rw [← List.sum_append_nat, ← List.map_append, List.take_append_drop]
  rw [h1, snSize_take h]
  omega
/-- the next version of a snapshot can be counted -/
theorem restStep {s : Sn} (h : CanR s) {i : Nat} (hi : i < s.chs.length) {j : Nat} (hj : j < s.chs[i].l.length) :
    isKey s.chs[i].k = true ∧ PlOK s.la (s.chs[i].k, (s.chs[i].l[j].b, s.chs[i].l[j].i)) ∧ (∀ u ∈ snV (s.chs.take i) ++ (chV s.chs[i]).take j, u.1 = s.chs[i].k → later (s.chs[i].k, (s.chs[i].l[j].b, s.chs[i].l[j].i)) u) ∧ (snV (s.chs.take i) ++ (chV s.chs[i]).take j).length + 1 ≤ snSize s.chs ∧ (chV s.chs[i]).take (j + 1) = (chV s.chs[i]).take j ++ [(s.chs[i].k, (s.chs[i].l[j].b, s.chs[i].l[j].i))] := by
  have hc := h.2.2.1 _ (List.getElem_mem hi)
  have hr := h.2.2.2
  have h1 := (hc.2 j hj).1
  have hjc : j < (chV s.chs[i]).length := by simpa [chV] using hj
  have he : (chV s.chs[i])[j] = (s.chs[i].k, (s.chs[i].l[j].b, s.chs[i].l[j].i)) := by simp [chV]
  refine ⟨hr.1 _ (List.mem_map.2 ⟨_, List.getElem_mem hi, rfl⟩), ⟨ChOK.one hc.2 j hj, h1.2.1, h1.2.2.1, h1.2.2.2⟩, fun u hu hk => ?_, ?_, by rw [List.take_succ_eq_append_getElem hjc, he]⟩
  · rcases List.mem_append.1 hu with hu | hu
    · exfalso
      obtain ⟨c, hcm, he2⟩ := snV_mem hu
      obtain ⟨m, hm, rfl⟩ := List.getElem_of_mem hcm
      simp only [List.length_take] at hm
      simp only [List.getElem_take] at he2
      have h2 := List.pairwise_iff_getElem.1 hr.2 m i (by simp; omega) (by simpa using hi) (by omega)
      simp only [List.getElem_map] at h2
      rw [← he2, hk, lt_irrefl] at h2
      cases h2
    · obtain ⟨m, hm, rfl⟩ := List.getElem_of_mem hu
      simp only [List.length_take] at hm
      have hml : m < s.chs[i].l.length := by omega
      have e2 : ((chV s.chs[i]).take j)[m]'(by simp only [List.length_take]; omega) = (s.chs[i].k, (s.chs[i].l[m].b, s.chs[i].l[m].i)) := by simp [chV, List.getElem_take]
      rw [e2]
      obtain ⟨n, rfl⟩ : ∃ n, j = m + n + 1 := ⟨j - m - 1, by omega⟩
      have := ChOK.lt hc.2 n m hj
      exact .inl this
  · have h3 := snSize_take_le hi
    rw [List.length_append, snV_length, List.length_take]
    omega
end Go.Proofs.YtbmohlkcmhhpgaaGreat
/-
  Restore.
-/
namespace Go.Proofs.YtbmohlkcmhhpgaaGreat
open Go.RowKit Go.Sort

def RestPost (w : World) (cap : Int) (s : Sn) (e : Ending) (w' : World) : Prop :=
  (restE cap s ≠ 0 ∧ e = .returned (.tuple #[.pointer none, .int .i64 (restE cap s)]) ∧ Below w.heap.size w w') ∨
  (restE cap s = 0 ∧ ∃ B Mp Mc Mn nw, e = .returned (.tuple #[ptr B, .int .i64 0]) ∧ BA w' B Mp Mc Mn cap s.la s.la s.pins (snV s.chs) nw ∧ (∀ k, SB B Mp Mc Mn k → w.heap.size ≤ k) ∧ Below w.heap.size w w')
theorem restE_cap {cap : Int} {s : Sn} (h : cap < 1 ∨ 65536 < cap) : restE cap s = 91 := by unfold restE; rw [if_pos h]
theorem restE_can {cap : Int} {s : Sn} (h : 1 ≤ cap ∧ cap ≤ 65536) (hc : ¬ CanR s) : restE cap s = 105 := by unfold restE; rw [if_neg (by omega), if_pos hc]
theorem restE_room {cap : Int} {s : Sn} (h : 1 ≤ cap ∧ cap ≤ 65536) (hc : CanR s) (hr : cap < (snSize s.chs : Int)) : restE cap s = 100 := by unfold restE; rw [if_neg (by omega), if_neg (by simpa using hc), if_pos hr]
theorem restE_ok {cap : Int} {s : Sn} (h : 1 ≤ cap ∧ cap ≤ 65536) (hc : CanR s) (hr : ¬ cap < (snSize s.chs : Int)) : restE cap s = 0 := by unfold restE; rw [if_neg (by omega), if_neg (by simpa using hc), if_neg hr]
set_option maxRecDepth 100000 in
set_option maxHeartbeats 4000000 in
theorem restore_any (N : Nat) (w : World) (cap : Int) (s : Sn) (h : SnAt N w s) (hN : N ≤ w.heap.size) (ho : SnOK s) :
    Calls Tryz.prog 13 #[.int .i64 cap, snv s] w fun e w' => RestPost w cap s e w' := by
  obtain ⟨pn, hpn⟩ : ∃ pn, pn = s.pins.length := ⟨_, rfl⟩
  obtain ⟨cn, hcn⟩ : ∃ cn, cn = s.chs.length := ⟨_, rfl⟩
  obtain ⟨pa, hpa⟩ : ∃ pa, pa = s.pa := ⟨_, rfl⟩
  obtain ⟨ca, hca⟩ : ∃ ca, ca = s.ca := ⟨_, rfl⟩
  obtain ⟨pc, hpc⟩ : ∃ pc, pc = s.pc := ⟨_, rfl⟩
  obtain ⟨cc, hcc⟩ : ∃ cc, cc = s.cc := ⟨_, rfl⟩
  obtain ⟨la, hla⟩ : ∃ la, la = s.la := ⟨_, rfl⟩
  have hnp := ho.np
  have hnc := ho.nc
  have hsv : snv s = .agg #[.int .i64 la, .slice pa pn pc, .slice ca cn cc] := by rw [hla, hpa, hpn, hpc, hca, hcn, hcc]; rfl
  rw [← hpn] at hnp
  rw [← hcn] at hnc
  obtain ⟨W1, hW1⟩ : ∃ W1, W1 = w.alloc (.cells #[.int .i64 la, .slice pa pn pc, .slice ca cn cc] 25) := ⟨_, rfl⟩
  obtain ⟨Kb, hKb⟩ : ∃ Kb, Kb = w.heap.size := ⟨_, rfl⟩
  have HB : Hid (Below w.heap.size w W1 ∧ W1.heap[Kb]? = some (.cells #[.int .i64 la, .slice pa pn pc, .slice ca cn cc] 25 (0, 0))) := by
    rw [hW1, hKb]
    exact ⟨(Below.refl _ _).alloc (Nat.le_refl _) _, heap_alloc_new _ _ rfl⟩
  have HS : Hid (∀ W, Below W1.heap.size W1 W → SnAt N W s) := fun W hW => by
    have hb := HB.out.1
    exact (h.below (hb.mono hN)).below (hW.mono (by have := hb.size; omega))
  have HK : Hid (∀ W, Below W1.heap.size W1 W → W.cell? ⟨Kb, 0, none⟩ = some (.int .i64 la) ∧ W.cell? ⟨Kb, 1, none⟩ = some (.slice pa pn pc) ∧ W.cell? ⟨Kb, 2, none⟩ = some (.slice ca cn cc)) := fun W hW => by
    have h4 : W.heap[Kb]? = _ := (hW.block _ (blk_lt HB.out.2)).trans HB.out.2
    refine ⟨?_, ?_, ?_⟩ <;> simp [World.cell?, h4]
  have HCan : Hid (∀ W, Below W1.heap.size W1 W → Calls Tryz.prog 36 #[.agg #[.int .i64 la, .slice pa pn pc, .slice ca cn cc]] W fun e w' => FitPost W (CanR s) e w') := fun W hW => by
    have h1 := canRestore_any N W s (HS.out W hW) (by have := hW.size; have := HB.out.1.size; omega) ho
    rw [hsv] at h1
    exact h1
  have HSz : Hid (∀ W, Below W1.heap.size W1 W → Calls Tryz.prog 37 #[.agg #[.int .i64 la, .slice pa pn pc, .slice ca cn cc]] W fun e w' => SizePost W (snSize s.chs : Int) e w') := fun W hW => by
    have h1 := size_any N W s (HS.out W hW) (by have := hW.size; have := HB.out.1.size; omega) ho
    rw [hsv] at h1
    exact h1
  have HO := hidC ho
  have HE := hidC (And.intro hpn (And.intro hcn (And.intro hpa (And.intro hca hla))))
  rw [hsv]
  clear h hpn hcn hpa hca hpc hcc hla ho hsv
  go_enter Tryz.func13, Tryz.ntmps13
  go_wp2_with fail
  rw [← hW1, ← hKb]
  clear hW1 hKb
  refine (new_any W1 cap).mono ?_
  rintro e W2 (⟨hcap, rfl, hw2⟩ | ⟨hcap, B, Mp, Mc, Mn, rfl, hba, hsb, hb2⟩)
  · subst hw2
    have HX : Hid (RestPost w cap s (.returned (.tuple #[.pointer none, .int .i64 91])) W2) := .inl ⟨by rw [restE_cap hcap]; decide, by rw [restE_cap hcap], HB.out.1⟩
    go_wp2
    go_ret2
    exact HX.out
  have HA2 := hidC (And.intro hba hsb)
  have HB2 := hidC hb2
  obtain ⟨k0, k1, k2⟩ := HK.out W2 hb2
  clear hba hsb hb2
  go_wp2_with fail
  refine (HCan.out W2 HB2.out).mono ?_
  rintro e W3 ⟨r, rfl, hr, hb3⟩
  have HB3 : Hid (Below W1.heap.size W1 W3) := HB2.out.trans (hb3.mono HB2.out.size)
  have HA3 : Hid (BA W3 B Mp Mc Mn cap 0 0 [] [] []) := HA2.out.1.kept hb3
  have HBw : Hid (∀ W, Below W1.heap.size W1 W → Below w.heap.size w W) := fun W hW => HB.out.1.trans (hW.mono HB.out.1.size)
  clear k0 k1 k2 hb3
  cases r with
  | false =>
    have hnc : ¬ CanR s := fun h => by have := hr.2 h; cases this
    have HX : Hid (RestPost w cap s (.returned (.tuple #[.pointer none, .int .i64 105])) W3) := .inl ⟨by rw [restE_can hcap hnc]; decide, by rw [restE_can hcap hnc], HBw.out _ HB3.out⟩
    clear hr hnc
    go_wp2
    go_ret2
    exact HX.out
  | true =>
    have HCR := hidC (hr.1 rfl)
    clear hr
    obtain ⟨k0, k1, k2⟩ := HK.out W3 HB3.out
    go_wp2_with fail
    refine (HSz.out W3 HB3.out).mono ?_
    rintro e W4 ⟨rfl, hb4⟩
    have HB4 : Hid (Below W1.heap.size W1 W4) := HB3.out.trans (hb4.mono HB3.out.size)
    have HA4 : Hid (BA W4 B Mp Mc Mn cap 0 0 [] [] []) := HA3.out.kept hb4
    clear k0 k1 k2 hb4
    obtain ⟨sz, hsz⟩ : ∃ sz : Int, sz = (snSize s.chs : Int) := ⟨_, rfl⟩
    rw [← hsz]
    have HSze := hidC hsz
    have HSB := hidC HA2.out.2
    clear hsz HCan HSz HA2 HB2 HA3 HB3
    by_cases hrm : cap < sz
    · have hrb : decide (cap < sz) = true := decide_eq_true hrm
      have HX : Hid (RestPost w cap s (.returned (.tuple #[.pointer none, .int .i64 100])) W4) := by
        have h1 := restE_room hcap HCR.out (by rw [← HSze.out]; exact hrm)
        exact .inl ⟨by rw [h1]; decide, by rw [h1], HBw.out _ HB4.out⟩
      go_wp2
      go_ret2
      exact HX.out
    have hrb : decide (cap < sz) = false := decide_eq_false hrm
    have HE0 : Hid (restE cap s = 0) := restE_ok hcap HCR.out (by rw [← HSze.out]; exact hrm)
    obtain ⟨k0, k1, k2⟩ := HK.out W4 HB4.out
    obtain ⟨_, b1, b2, _⟩ := HA4.out.cells
    have f1 := HA4.out.frozen 1
    have f2 := HA4.out.frozen 2
    have k0d : W4.drew.cell? ⟨Kb, 0, none⟩ = some (.int .i64 la) := k0
    have b1d : W4.drew.cell? ⟨B, 1, none⟩ = some (.int .i64 0) := b1
    have b2d : W4.drew.cell? ⟨B, 2, none⟩ = some (.int .i64 0) := b2
    have f1d : W4.drew.frozen? ⟨B, 1, none⟩ = false := f1
    have f2d : W4.drew.frozen? ⟨B, 2, none⟩ = false := f2
    have HNe : Hid (Kb ≠ B) := fun e => by
      have h1 := HA4.out.bk
      have h2 := (HB4.out.block _ (blk_lt HB.out.2)).trans HB.out.2
      rw [← e, h2] at h1
      cases h1
    have hne := HNe.out
    have hne2 : B ≠ Kb := fun e => hne e.symm
    go_wp2_with fail
    go_region
    obtain ⟨W5, hW5⟩ : ∃ W5, W5 = ((W4.setCell ⟨B, 1, none⟩ (.int .i64 la)).setCell ⟨B, 2, none⟩ (.int .i64 la)).drew := ⟨_, rfl⟩
    have HA5 : Hid (BA W5 B Mp Mc Mn cap la la [] [] [] ∧ Below W1.heap.size W1 W5) := by
      have hl := HCR.out.1
      rw [← HE.out.2.2.2.2] at hl
      have hbB : W1.heap.size ≤ B := HSB.out B (.inl rfl)
      have h2 := (HB4.out.setCell (p := ⟨B, 1, none⟩) hbB (.int .i64 la)).setCell (p := ⟨B, 2, none⟩) hbB (.int .i64 la)
      rw [hW5]
      exact ⟨(HA4.out.setNums la hl).same (fun _ _ => rfl), ⟨h2.os, h2.tape, h2.output, h2.size, h2.block⟩⟩
    rw [← hW5]
    clear hW5 k0 k1 k2 b1 b2 f1 f2 k0d b1d b2d f1d f2d hne hne2 HNe HA4 HB4
    obtain ⟨k0, k1, k2⟩ := HK.out W5 HA5.out.2
    go_wp2_with fail
    clear k0 k1 k2
    have hxp : Hid (pn = s.pins.length) := HE.out.1
    go_loopw [9, 42] (fun _ y wr => ∃ i : Nat, i ≤ pn ∧ y = .int .i64 (i : Int) ∧ Hid (BA wr B Mp Mc Mn cap la la (s.pins.take i) [] [] ∧ Below W1.heap.size W1 wr)) (fun _ y _ => pn - (intOf y).toNat)
    case atStart => exact ⟨0, Nat.zero_le _, rfl, HA5.out⟩
    case round =>
      clear HA5
      obtain ⟨i, hi, rfl, HI⟩ := hrel
      by_cases hlt : i < pn
      · have hil : i < s.pins.length := by have := HE.out.1; omega
        obtain ⟨b, off, hpa, c0, c1⟩ := (HS.out wr HI.out.2).pin (i := i) hil
        rw [← HE.out.2.2.1] at hpa
        subst hpa
        obtain ⟨hp1, hp2, hp3, hp4⟩ := pins_new HCR.out.2.1 hil
        rw [← HE.out.2.2.2.2] at hp1
        obtain ⟨U, hU⟩ : ∃ U, U = wr.alloc (.cells #[.int .i64 s.pins[i].1, .int .i64 s.pins[i].2] 92) := ⟨_, rfl⟩
        have hbU : Below wr.heap.size wr U := by rw [hU]; exact (Below.refl _ _).alloc (Nat.le_refl _) _
        have hUb : U.heap[wr.heap.size]? = some (.cells #[.int .i64 s.pins[i].1, .int .i64 s.pins[i].2] 92 (0, 0)) := by rw [hU]; exact heap_alloc_new _ _ rfl
        have hAU : BA U.drew B Mp Mc Mn cap la la (s.pins.take i) [] [] := (HI.out.1.kept hbU).same (fun _ _ => rfl)
        obtain ⟨W7, hput, hA7, hg7⟩ := hAU.addPin s.pins[i] hp1 hp2 hp3
        rw [← hp4] at hA7
        have HN7 : Hid (BA W7 B Mp Mc Mn cap la la (s.pins.take (i + 1)) [] [] ∧ Below W1.heap.size W1 W7) := by
          have h1 := HI.out.2.trans (hbU.mono HI.out.2.size)
          have h2 : Below W1.heap.size W1 U.drew := ⟨h1.os, h1.tape, h1.output, h1.size, h1.block⟩
          exact ⟨hA7, h2.grown hg7 h2.size (fun k e => by cases e; exact HSB.out _ (.inr (.inl rfl)))⟩
        obtain ⟨_, _, _, b3, _⟩ := hAU.cells
        have q0 : U.drew.cell? ⟨wr.heap.size, 0, none⟩ = some (.int .i64 s.pins[i].1) := by have h1 : U.drew.heap[wr.heap.size]? = _ := hUb; simp [World.cell?, h1]
        have q1 : U.drew.cell? ⟨wr.heap.size, 1, none⟩ = some (.int .i64 s.pins[i].2) := by have h1 : U.drew.heap[wr.heap.size]? = _ := hUb; simp [World.cell?, h1]
        clear hp1 hp2 hp3 hp4 hbU hUb hAU hA7 hg7 HI
        generalize s.pins[i].1 = p1 at *
        generalize s.pins[i].2 = p2 at *
        go_wp2_with fail
        rw [← hU]
        clear hU c0 c1
        go_region
        go_wp2
        exact ⟨⟨i + 1, by omega, by go_num, HN7.out⟩, by simp [intOf]; omega⟩
      · have hie : i = pn := by omega
        subst hie
        have HA6 : Hid (BA wr B Mp Mc Mn cap la la s.pins [] [] ∧ Below W1.heap.size W1 wr) := by
          have h1 := HI.out
          rw [HE.out.1, List.take_length] at h1
          exact h1
        clear HI
        generalize wr = W6 at *
        obtain ⟨k0, k1, k2⟩ := HK.out W6 HA6.out.2
        go_wp2_with fail
        clear k0 k1 k2
        have HIn : Hid (∀ c ∈ s.chs, KIn c.k ∧ ∀ v ∈ c.l, In64 v.b ∧ In64 v.i) := HO.out.ic
        have HNv := hidC HO.out.nv
        have HCn : Hid (cn = s.chs.length ∧ ca = s.ca ∧ la = s.la) := ⟨HE.out.2.1, HE.out.2.2.2.1, HE.out.2.2.2.2⟩
        have HCp : Hid ((snSize s.chs : Int) ≤ cap) := by have := HSze.out; show _ ≤ _; omega
        have HFin : Hid (∀ W nw, BA W B Mp Mc Mn cap la la s.pins (snV s.chs) nw → Below W1.heap.size W1 W → RestPost w cap s (.returned (.tuple #[ptr B, .int .i64 0])) W) := fun W nw hA hW => by
          refine .inr ⟨HE0.out, B, Mp, Mc, Mn, nw, rfl, ?_, fun k hk => Nat.le_trans HB.out.1.size (HSB.out k hk), HBw.out W hW⟩
          rw [HCn.out.2.2] at hA
          exact hA
        clear HO HE HBw HE0 HSze hxp HB hrb hrm HK
        go_loopw [11, 13, 58, 65] (fun _ _ y _ wr => ∃ i : Nat, i ≤ cn ∧ y = .int .i64 (i : Int) ∧ Hid (∃ nw, BA wr B Mp Mc Mn cap la la s.pins (snV (s.chs.take i)) nw ∧ Below W1.heap.size W1 wr)) (fun _ _ y _ _ => cn - (intOf y).toNat)
        case atStart => exact ⟨0, Nat.zero_le _, rfl, [], HA6.out⟩
        case round =>
          clear HA6
          obtain ⟨i, hi, rfl, HI⟩ := hrel
          by_cases hlt : i < cn
          · have hil : i < s.chs.length := by have := HCn.out.1; omega
            obtain ⟨nw0, hA0, hb0⟩ := HI.out
            obtain ⟨b, off, hca, c0, c1, c2⟩ := (HS.out wr hb0).chain (i := i) hil
            rw [← HCn.out.2.1] at hca
            subst hca
            have hsn := HNv.out _ (List.getElem_mem hil)
            obtain ⟨U, hU⟩ : ∃ U, U = wr.alloc (.cells #[.int .i64 s.chs[i].k.1, .int .i64 s.chs[i].k.2, .slice s.chs[i].a s.chs[i].l.length s.chs[i].c] 50) := ⟨_, rfl⟩
            obtain ⟨Cb, hCb⟩ : ∃ Cb, Cb = wr.heap.size := ⟨_, rfl⟩
            have HU0 : Hid (∃ nw, BA U B Mp Mc Mn cap la la s.pins (snV (s.chs.take i) ++ (chV s.chs[i]).take 0) nw ∧ Below W1.heap.size W1 U ∧ U.heap[Cb]? = some (.cells #[.int .i64 s.chs[i].k.1, .int .i64 s.chs[i].k.2, .slice s.chs[i].a s.chs[i].l.length s.chs[i].c] 50 (0, 0))) := by
              have hbU : Below wr.heap.size wr U := by rw [hU]; exact (Below.refl _ _).alloc (Nat.le_refl _) _
              refine ⟨nw0, ?_, hb0.trans (hbU.mono hb0.size), by rw [hU, hCb]; exact heap_alloc_new _ _ rfl⟩
              rw [List.take_zero, List.append_nil]
              exact hA0.kept hbU
            have HSt : Hid (∀ (j : Nat) (hj : j < s.chs[i].l.length), isKey s.chs[i].k = true ∧ PlOK la (s.chs[i].k, (s.chs[i].l[j].b, s.chs[i].l[j].i)) ∧ (∀ u ∈ snV (s.chs.take i) ++ (chV s.chs[i]).take j, u.1 = s.chs[i].k → later (s.chs[i].k, (s.chs[i].l[j].b, s.chs[i].l[j].i)) u) ∧ ((snV (s.chs.take i) ++ (chV s.chs[i]).take j).length : Int) + 1 ≤ cap ∧ (chV s.chs[i]).take (j + 1) = (chV s.chs[i]).take j ++ [(s.chs[i].k, (s.chs[i].l[j].b, s.chs[i].l[j].i))]) := fun j hj => by
              obtain ⟨r1, r2, r3, r4, r5⟩ := restStep HCR.out hil hj
              rw [← HCn.out.2.2] at r2
              have := HCp.out
              exact ⟨r1, r2, r3, by omega, r5⟩
            have HT : Hid (snV (s.chs.take (i + 1)) = snV (s.chs.take i) ++ (chV s.chs[i]).take s.chs[i].l.length) := by
              show _ = _
              rw [List.take_succ_eq_append_getElem hil, snV_append]
              have e1 : snV [s.chs[i]] = chV s.chs[i] := by simp [snV]
              have e2 : s.chs[i].l.length = (chV s.chs[i]).length := by simp [chV]
              rw [e1, e2, List.take_length]
            have HVs : Hid (∀ W, Below W1.heap.size W1 W → CsAt N W s.chs[i].a (scs s.chs[i].l)) := fun W hW => (HS.out W hW).vs _ (List.getElem_mem hil)
            have HKi : Hid (KIn s.chs[i].k ∧ ∀ v ∈ s.chs[i].l, In64 v.b ∧ In64 v.i) := HIn.out _ (List.getElem_mem hil)
            clear hA0 hb0 HI
            generalize s.chs[i] = cj at *
            obtain ⟨⟨x1, x2⟩, sa, sc, sl⟩ := cj
            simp only at c0 c1 c2 HU0 HSt HT HVs HKi hsn hU
            obtain ⟨sn, hsn'⟩ : ∃ sn, sn = sl.length := ⟨_, rfl⟩
            rw [← hsn'] at c2 HU0 HT hsn hU
            have HSn := hidC hsn'
            clear hsn'
            generalize hP0 : snV (s.chs.take i) = P0 at *
            generalize hP1 : snV (s.chs.take (i + 1)) = P1 at *
            go_wp2_with fail
            rw [← hU, ← hCb]
            clear hU hCb c0 c1 c2
            go_loopw [13, 65] (fun _ y wr => ∃ j : Nat, j ≤ sn ∧ y = .int .i64 (j : Int) ∧ Hid (∃ nw, BA wr B Mp Mc Mn cap la la s.pins (P0 ++ (chV ⟨(x1, x2), sa, sc, sl⟩).take j) nw ∧ Below W1.heap.size W1 wr ∧ wr.heap[Cb]? = some (.cells #[.int .i64 x1, .int .i64 x2, .slice sa sn sc] 50 (0, 0)))) (fun _ y _ => sn - (intOf y).toNat)
            case atStart => exact ⟨0, Nat.zero_le _, rfl, HU0.out⟩
            case round =>
              clear HU0
              obtain ⟨j, hj, rfl, HJ⟩ := hrel
              by_cases hjlt : j < sn
              · have hjl : j < sl.length := by have := HSn.out; omega
                obtain ⟨nw1, hA1, hb1, hbx1⟩ := HJ.out
                obtain ⟨b', off', hsa, d0, d1, d2, d3⟩ := (HVs.out wr hb1).stamp hjl
                subst hsa
                obtain ⟨r1, r2, r3, r4, r5⟩ := HSt.out j hjl
                have hin := HKi.out.2 _ (List.getElem_mem hjl)
                have hki := HKi.out.1
                generalize sl[j].b = y1 at *
                generalize sl[j].i = y2 at *
                generalize sl[j].s = y3 at *
                generalize sl[j].v = y4 at *
                obtain ⟨U2, hU2⟩ : ∃ U2, U2 = wr.alloc (.cells #[.int .i64 y1, .int .i64 y2, .bool y3, .int .i64 y4] 96) := ⟨_, rfl⟩
                have hbU : Below wr.heap.size wr U2 := by rw [hU2]; exact (Below.refl _ _).alloc (Nat.le_refl _) _
                have hAU := hA1.kept hbU
                have HCt := hidC (count_any U2 B Mp Mc Mn cap la la s.pins _ nw1 hAU ((x1, x2), (y1, y2)) ⟨hki, hin⟩ r1 r2 r3 r4)
                have hbxU : U2.heap[Cb]? = some (.cells #[.int .i64 x1, .int .i64 x2, .slice (some ⟨b', off', none⟩) sn sc] 50 (0, 0)) := (hbU.block _ (blk_lt hbx1)).trans hbx1
                have hnS : ¬ SB B Mp Mc Mn Cb := fun hS => by
                  rcases hS with e | e | e | e
                  · have := hAU.bk; rw [← e, hbxU] at this; cases this
                  · obtain ⟨_, _, h4, _⟩ := hAU.mp.ex; rw [← e, hbxU] at h4; cases h4
                  · obtain ⟨_, _, h4, _⟩ := hAU.mc.ex; rw [← e, hbxU] at h4; cases h4
                  · obtain ⟨_, _, h4, _⟩ := hAU.mn.ex; rw [← e, hbxU] at h4; cases h4
                have HNx : Hid (∀ W, BA W B Mp Mc Mn cap la la s.pins ((P0 ++ (chV ⟨(x1, x2), some ⟨b', off', none⟩, sc, sl⟩).take j) ++ [((x1, x2), (y1, y2))]) (nwP nw1 (x1, x2)) → Fr (SB B Mp Mc Mn) U2 W → ∃ nw, BA W B Mp Mc Mn cap la la s.pins (P0 ++ (chV ⟨(x1, x2), some ⟨b', off', none⟩, sc, sl⟩).take (j + 1)) nw ∧ Below W1.heap.size W1 W ∧ W.heap[Cb]? = some (.cells #[.int .i64 x1, .int .i64 x2, .slice (some ⟨b', off', none⟩) sn sc] 50 (0, 0))) := fun W hA hf => by
                  refine ⟨_, by rw [r5, ← List.append_assoc]; exact hA, ?_, (hf.block _ (blk_lt hbxU) hnS).trans hbxU⟩
                  have h1 := hb1.trans (hbU.mono hb1.size)
                  exact h1.trans (hf.below h1.size HSB.out)
                have hbx2 : ∀ o, (wr.alloc o).heap[Cb]? = some (.cells #[.int .i64 x1, .int .i64 x2, .slice (some ⟨b', off', none⟩) sn sc] 50 (0, 0)) := fun o => (heap_alloc_old _ _ (blk_lt hbx1)).trans hbx1
                have q0 : ∀ o, (wr.alloc o).cell? ⟨Cb, 0, none⟩ = some (.int .i64 x1) := fun o => by have h1 := hbx2 o; simp [World.cell?, h1]
                have q1 : ∀ o, (wr.alloc o).cell? ⟨Cb, 1, none⟩ = some (.int .i64 x2) := fun o => by have h1 := hbx2 o; simp [World.cell?, h1]
                clear hA1 hb1 hbx1 hbU hAU hbxU hnS hbx2 r1 r2 r3 r4 r5 HJ hin hki HSt HVs HT HS
                generalize P0 ++ (chV ⟨(x1, x2), some ⟨b', off', none⟩, sc, sl⟩).take j = Q0 at *
                go_wp2_with fail
                rw [← hU2]
                clear hU2 q0 q1 d0 d1 d2 d3
                refine HCt.out.mono ?_
                rintro e W8 ⟨⟨xx, rfl⟩, hA8, hf8⟩
                have HN8 := hidC (HNx.out W8 hA8 hf8)
                clear hA8 hf8 HNx HCt
                go_wp2
                exact ⟨⟨j + 1, by omega, by go_num, HN8.out⟩, by simp [intOf]; omega⟩
              · have hje : j = sn := by omega
                subst hje
                have HF : Hid (∃ nw, BA wr B Mp Mc Mn cap la la s.pins P1 nw ∧ Below W1.heap.size W1 wr) := by
                  obtain ⟨nw, hA, hb, _⟩ := HJ.out
                  rw [← HT.out] at hA
                  exact ⟨nw, hA, hb⟩
                clear HJ HSt HVs HT
                go_wp2
                refine ⟨⟨i + 1, by omega, by go_num, ?_⟩, by simp [intOf]; omega⟩
                rw [hP1]
                exact HF.out
          · have hie : i = cn := by omega
            subst hie
            obtain ⟨nw, hA, hb⟩ := HI.out
            rw [HCn.out.1, List.take_length] at hA
            have HX := hidC (HFin.out wr nw hA hb)
            clear hA hb HI HFin
            go_wp2
            go_ret2
            exact HX.out
end Go.Proofs.YtbmohlkcmhhpgaaGreat
/-
  The document's Restore.
-/
namespace Go.Proofs.YtbmohlkcmhhpgaaGreat
open Go.RowKit Go.Sort

theorem appPins {w : World} (ty : TypeId) (base : Nat) (N : Nat) (ao : Option Addr) (c : Nat) (l : List (Int × Int)) (hsrc : CsAt N w ao (pns l)) (h0 : ao = none → c = 0) (hl : l.length ≤ 100000) (hb : base ≤ w.heap.size) :
    ∃ v' w', (Builtin.append_ #[22, 22] ty #[.slice none 0 0, .slice ao l.length c]).run Tryz.prog w = .ok v' w' ∧ (∃ a n c, v' = .slice a n c) ∧ w'.ownsRow base 92 2 v' l.length (pns l) ∧ w.grownBy w' none ∧ (v'.ownBlock = none ∨ v'.ownBlock = some w.heap.size) := by
  obtain ⟨v', w', h1, h2, h3, h4⟩ := akPin.app (w := w) ty base (.slice none 0 0) 0 [] (World.ownsRow_nil _ _ _ _) N ao l.length c (pns l) (pns_length l) hsrc h0 (pns_one l) (by omega) (by omega) hb
  rw [Nat.zero_add, List.nil_append] at h2
  refine ⟨v', w', h1, ?_, h2, h3, h4⟩
  obtain ⟨_, ⟨rfl, _⟩ | ⟨g, cp, cur, rfl, _⟩⟩ := h2
  · exact ⟨_, _, _, rfl⟩
  · exact ⟨_, _, _, rfl⟩
def RRPost (w : World) (cap : Int) (s : Sn) (e : Ending) (w' : World) : Prop :=
  (restE cap s ≠ 0 ∧ e = .returned (.tuple #[.pointer none, .int .i64 (restE cap s)]) ∧ Below w.heap.size w w') ∨
  (restE cap s = 0 ∧ ∃ R av pv, e = .returned (.tuple #[ptr R, .int .i64 0]) ∧ RB w' w.heap.size R cap s.la s.la av pv (snV s.chs) s.pins ∧ Below w.heap.size w w')
set_option maxRecDepth 100000 in
set_option maxHeartbeats 4000000 in
theorem rrestore_any (N : Nat) (w : World) (cap : Int) (s : Sn) (h : SnAt N w s) (hN : N ≤ w.heap.size) (ho : SnOK s) :
    Calls Tryz.prog 15 #[.int .i64 cap, snv s] w fun e w' => RRPost w cap s e w' := by
  obtain ⟨pn, hpn⟩ : ∃ pn, pn = s.pins.length := ⟨_, rfl⟩
  obtain ⟨cn, hcn⟩ : ∃ cn, cn = s.chs.length := ⟨_, rfl⟩
  obtain ⟨pa, hpa⟩ : ∃ pa, pa = s.pa := ⟨_, rfl⟩
  obtain ⟨ca, hca⟩ : ∃ ca, ca = s.ca := ⟨_, rfl⟩
  obtain ⟨pc, hpc⟩ : ∃ pc, pc = s.pc := ⟨_, rfl⟩
  obtain ⟨cc, hcc⟩ : ∃ cc, cc = s.cc := ⟨_, rfl⟩
  obtain ⟨la, hla⟩ : ∃ la, la = s.la := ⟨_, rfl⟩
  have hnp := ho.np
  have hnc := ho.nc
  have hsv : snv s = .agg #[.int .i64 la, .slice pa pn pc, .slice ca cn cc] := by rw [hla, hpa, hpn, hpc, hca, hcn, hcc]; rfl
  rw [← hpn] at hnp
  rw [← hcn] at hnc
  obtain ⟨W1, hW1⟩ : ∃ W1, W1 = w.alloc (.cells #[.int .i64 la, .slice pa pn pc, .slice ca cn cc] 25) := ⟨_, rfl⟩
  obtain ⟨Kb, hKb⟩ : ∃ Kb, Kb = w.heap.size := ⟨_, rfl⟩
  have HB : Hid (Below w.heap.size w W1 ∧ W1.heap[Kb]? = some (.cells #[.int .i64 la, .slice pa pn pc, .slice ca cn cc] 25 (0, 0))) := by
    rw [hW1, hKb]
    exact ⟨(Below.refl _ _).alloc (Nat.le_refl _) _, heap_alloc_new _ _ rfl⟩
  have HS : Hid (∀ W, Below W1.heap.size W1 W → SnAt N W s) := fun W hW => by
    have hb := HB.out.1
    exact (h.below (hb.mono hN)).below (hW.mono (by have := hb.size; omega))
  have HK : Hid (∀ W, Below W1.heap.size W1 W → W.cell? ⟨Kb, 0, none⟩ = some (.int .i64 la) ∧ W.cell? ⟨Kb, 1, none⟩ = some (.slice pa pn pc) ∧ W.cell? ⟨Kb, 2, none⟩ = some (.slice ca cn cc)) := fun W hW => by
    have h4 : W.heap[Kb]? = _ := (hW.block _ (blk_lt HB.out.2)).trans HB.out.2
    refine ⟨?_, ?_, ?_⟩ <;> simp [World.cell?, h4]
  have HCan : Hid (∀ W, Below W1.heap.size W1 W → Calls Tryz.prog 39 #[.agg #[.int .i64 la, .slice pa pn pc, .slice ca cn cc]] W fun e w' => FitPost W (CanR s) e w') := fun W hW => by
    have h1 := restorable_any N W s (HS.out W hW) (by have := hW.size; have := HB.out.1.size; omega) ho
    rw [hsv] at h1
    exact h1
  have HP0 : Hid ((pa = none → pc = 0) ∧ pn = s.pins.length ∧ pa = s.pa) := ⟨by rw [hpa, hpc]; exact h.p0, hpn, hpa⟩
  have HE := hidC (And.intro hpn (And.intro hcn (And.intro hca hla)))
  have HBw : Hid (∀ W, Below W1.heap.size W1 W → Below w.heap.size w W) := fun W hW => HB.out.1.trans (hW.mono HB.out.1.size)
  have HNv := hidC ho.nv
  rw [hsv]
  clear h hpn hcn hpa hca hpc hcc hla ho hsv
  go_enter Tryz.func15, Tryz.ntmps15
  go_wp2_with fail
  rw [← hW1, ← hKb]
  clear hW1 hKb
  refine (rnew_any W1 cap).mono ?_
  rintro e W2 (⟨hcap, rfl, hw2⟩ | ⟨hcap, rfl, hrb, hb2, _⟩)
  · subst hw2
    have HX : Hid (RRPost w cap s (.returned (.tuple #[.pointer none, .int .i64 91])) W2) := .inl ⟨by rw [restE_cap hcap]; decide, by rw [restE_cap hcap], HB.out.1⟩
    go_wp2
    go_ret2
    exact HX.out
  obtain ⟨R, hR⟩ : ∃ R, R = W1.heap.size := ⟨_, rfl⟩
  rw [← hR] at hrb ⊢
  have HR := hidC hR
  have HA2 := hidC hrb
  have HB2 := hidC hb2
  obtain ⟨k0, k1, k2⟩ := HK.out W2 hb2
  clear hrb hb2 hR
  go_wp2_with fail
  refine (HCan.out W2 HB2.out).mono ?_
  rintro e W3 ⟨r, rfl, hr, hb3⟩
  have HB3 : Hid (Below W1.heap.size W1 W3) := HB2.out.trans (hb3.mono HB2.out.size)
  have HA3 := hidC (HA2.out.kept hb3)
  clear k0 k1 k2 hb3
  cases r with
  | false =>
    have hnc : ¬ CanR s := fun h => by have := hr.2 h; cases this
    have HX : Hid (RRPost w cap s (.returned (.tuple #[.pointer none, .int .i64 105])) W3) := .inl ⟨by rw [restE_can hcap hnc]; decide, by rw [restE_can hcap hnc], HBw.out _ HB3.out⟩
    clear hr hnc
    go_wp2
    go_ret2
    exact HX.out
  | true =>
    have HCR := hidC (hr.1 rfl)
    clear hr HCan HA2 HB2
    obtain ⟨k0, k1, k2⟩ := HK.out W3 HB3.out
    obtain ⟨_, b1, b2, _⟩ := HA3.out.cells
    have f1 := HA3.out.frozen 1
    have f2 := HA3.out.frozen 2
    have hA4 := HA3.out.setLast la
    obtain ⟨_, _, b2', _⟩ := hA4.cells
    have f2' := hA4.frozen 2
    have hB4 : Below W1.heap.size W1 (W3.setCell ⟨R, 1, none⟩ (.int .i64 la)) := HB3.out.setCell (p := ⟨R, 1, none⟩) (by have := HR.out; simp; omega) _
    obtain ⟨k0', _, _⟩ := HK.out _ hB4
    have HA5 : Hid (RB ((W3.setCell ⟨R, 1, none⟩ (.int .i64 la)).setCell ⟨R, 2, none⟩ (.int .i64 la)) W1.heap.size R cap la la (.slice none 0 0) (.slice none 0 0) [] [] ∧ Below W1.heap.size W1 ((W3.setCell ⟨R, 1, none⟩ (.int .i64 la)).setCell ⟨R, 2, none⟩ (.int .i64 la))) := by
      refine ⟨?_, hB4.setCell (p := ⟨R, 2, none⟩) (by have := HR.out; simp; omega) _⟩
      have h1 := hA4.setLow la
      rwa [HR.out] at h1 ⊢
    clear hA4 hB4
    go_wp2_with fail
    obtain ⟨W5, hW5⟩ : ∃ W5, W5 = (W3.setCell ⟨R, 1, none⟩ (.int .i64 la)).setCell ⟨R, 2, none⟩ (.int .i64 la) := ⟨_, rfl⟩
    rw [← hW5] at HA5 ⊢
    clear hW5 k0 k1 k2 b1 b2 f1 f2 b2' f2' k0' HA3 HB3
    have hA5d : RB W5.drew W1.heap.size R cap la la (.slice none 0 0) (.slice none 0 0) [] [] := HA5.out.1.same (fun _ _ _ => rfl)
    have hB5d : Below W1.heap.size W1 W5.drew := ⟨HA5.out.2.os, HA5.out.2.tape, HA5.out.2.output, HA5.out.2.size, HA5.out.2.block⟩
    obtain ⟨_, _, _, _, g4⟩ := hA5d.cells
    obtain ⟨_, k1, _⟩ := HK.out W5.drew hB5d
    have g4' : W5.cell? ⟨R, 4, none⟩ = some (.slice none 0 0) := g4
    have k1' : W5.cell? ⟨Kb, 1, none⟩ = some (.slice pa pn pc) := k1
    have HApp : Hid (∀ ty, ∃ v' w', (Builtin.append_ #[22, 22] ty #[.slice none 0 0, .slice pa pn pc]).run Tryz.prog W5.drew = .ok v' w' ∧ ((∃ a n c, v' = .slice a n c) ∧ (w'.cell? ⟨R, 4, none⟩ = some (.slice none 0 0) ∧ w'.frozen? ⟨R, 4, none⟩ = false) ∧ Hid (RB (w'.setCell ⟨R, 4, none⟩ v') W1.heap.size R cap la la (.slice none 0 0) v' [] s.pins ∧ Below W1.heap.size W1 (w'.setCell ⟨R, 4, none⟩ v')))) := fun ty => by
      have hsrc := (HS.out W5.drew hB5d).ps
      rw [← HP0.out.2.2] at hsrc
      obtain ⟨v', w', q1, q2, q3, q4, q5⟩ := appPins (w := W5.drew) ty W1.heap.size N pa pc s.pins hsrc HP0.out.1 (by rw [← HP0.out.2.1]; exact hnp) hB5d.size
      rw [← HP0.out.2.1] at q1
      obtain ⟨z1, z2⟩ := hA5d.putPins q3 q4 q5
      refine ⟨v', w', q1, q2, z1, z2, ?_⟩
      exact (hB5d.grown q4 hB5d.size (fun k e => by cases e)).setCell (p := ⟨R, 4, none⟩) (by have := HR.out; simp; omega) _
    clear hA5d hB5d HA5
    go_region_law (refine step_appG rfl _ _ 22 rfl (.slice none 0 0) (.slice pa pn pc) rfl rfl HApp.out ?_; rintro v' w6 ⟨⟨a6, n6, c6, rfl⟩, ⟨hc6, hf6⟩, HR6⟩)
    all_goals (
      obtain ⟨W7, hW7⟩ : ∃ W7, W7 = w6.setCell ⟨R, 4, none⟩ (.slice a6 n6 c6) := ⟨_, rfl⟩
      rw [← hW7] at HR6 ⊢
      obtain ⟨pv, hpv⟩ : ∃ pv, pv = Value.slice a6 n6 c6 := ⟨_, rfl⟩
      rw [← hpv] at HR6
      clear hW7 hc6 hf6 g4 g4' k1 k1' HApp hpv
      have HSz : Hid ((snV s.chs).length = snSize s.chs ∧ snSize s.chs ≤ 10000000000) := ⟨snV_length _, by
        have h1 := snSize_le HNv.out
        have h2 := HE.out.2.1
        have h3 : s.chs.length * 100000 ≤ 100000 * 100000 := Nat.mul_le_mul (by omega) (Nat.le_refl _)
        show _ ≤ _
        omega⟩
      go_wp2_with fail
      go_loopw [9, 10, 11] (fun y _ _ wr => ∃ i : Nat, i ≤ cn ∧ y = .int .i64 (i : Int) ∧ Hid (∃ av, RB wr W1.heap.size R cap la la av pv (snV (s.chs.take i)) s.pins ∧ Below W1.heap.size W1 wr)) (fun y _ _ _ => cn - (intOf y).toNat)
      case atStart => exact ⟨0, Nat.zero_le _, rfl, _, HR6.out⟩
      case round =>
        clear HR6
        obtain ⟨i, hi, rfl, HI⟩ := hrel
        obtain ⟨av0, hA0, hb0⟩ := HI.out
        obtain ⟨k0, k1, k2⟩ := HK.out wr hb0
        by_cases hlt : i < cn
        · have hil : i < s.chs.length := by have := HE.out.2.1; omega
          have HCl : Hid (∀ W, Below W1.heap.size W1 W → ∃ b off, ca = some ⟨b, off, none⟩ ∧ W.cell? ⟨b, off + i * 3, none⟩ = some (.int .i64 s.chs[i].k.1) ∧ W.cell? ⟨b, off + i * 3 + 1, none⟩ = some (.int .i64 s.chs[i].k.2) ∧ W.cell? ⟨b, off + i * 3 + 2, none⟩ = some (.slice s.chs[i].a s.chs[i].l.length s.chs[i].c)) := fun W hW => by
            obtain ⟨b', off', he, q⟩ := (HS.out W hW).chain (i := i) hil
            rw [← HE.out.2.2.1] at he
            exact ⟨b', off', he, q⟩
          obtain ⟨b, off, hca, _⟩ := HCl.out wr hb0
          subst hca
          have HCm : Hid (∀ W, Below W1.heap.size W1 W → W.cell? ⟨b, off + i * 3, none⟩ = some (.int .i64 s.chs[i].k.1) ∧ W.cell? ⟨b, off + i * 3 + 1, none⟩ = some (.int .i64 s.chs[i].k.2) ∧ W.cell? ⟨b, off + i * 3 + 2, none⟩ = some (.slice s.chs[i].a s.chs[i].l.length s.chs[i].c)) := fun W hW => by
            obtain ⟨b', off', he, q⟩ := HCl.out W hW
            cases he
            exact q
          have hsn := HNv.out _ (List.getElem_mem hil)
          have HT : Hid (snV (s.chs.take (i + 1)) = snV (s.chs.take i) ++ (chV s.chs[i]).take s.chs[i].l.length) := by
            show _ = _
            rw [List.take_succ_eq_append_getElem hil, snV_append]
            have e1 : snV [s.chs[i]] = chV s.chs[i] := by simp [snV]
            have e2 : s.chs[i].l.length = (chV s.chs[i]).length := by simp [chV]
            rw [e1, e2, List.take_length]
          have HVs : Hid (∀ W, Below W1.heap.size W1 W → CsAt N W s.chs[i].a (scs s.chs[i].l)) := fun W hW => (HS.out W hW).vs _ (List.getElem_mem hil)
          have HSt : Hid (∀ (j : Nat) (hj : j < s.chs[i].l.length), (snV (s.chs.take i) ++ (chV s.chs[i]).take j).length + 1 ≤ 10000000000 ∧ (chV s.chs[i]).take (j + 1) = (chV s.chs[i]).take j ++ [(s.chs[i].k, (s.chs[i].l[j].b, s.chs[i].l[j].i))]) := fun j hj => by
            obtain ⟨r1, r2, r3, r4, r5⟩ := restStep HCR.out hil hj
            have := HSz.out.2
            exact ⟨by omega, r5⟩
          have HU0 : Hid (∃ av, RB wr W1.heap.size R cap la la av pv (snV (s.chs.take i) ++ (chV s.chs[i]).take 0) s.pins ∧ Below W1.heap.size W1 wr) := by
            refine ⟨av0, ?_, hb0⟩
            rw [List.take_zero, List.append_nil]
            exact hA0
          clear hA0 HI HCl
          generalize s.chs[i] = cj at *
          obtain ⟨⟨x1, x2⟩, sa, sc, sl⟩ := cj
          simp only at HU0 HSt HT HVs hsn HCm
          obtain ⟨sn, hsn'⟩ : ∃ sn, sn = sl.length := ⟨_, rfl⟩
          rw [← hsn'] at HCm HT hsn
          have HSn := hidC hsn'
          clear hsn'
          obtain ⟨c0, c1, c2⟩ := HCm.out wr hb0
          generalize hP0 : snV (s.chs.take i) = P0 at *
          generalize hP1 : snV (s.chs.take (i + 1)) = P1 at *
          go_wp2_with fail
          clear k0 k1 k2 c0 c1 c2 hb0
          go_loopw [10, 11] (fun y _ wr => ∃ j : Nat, j ≤ sn ∧ y = .int .i64 (j : Int) ∧ Hid (∃ av, RB wr W1.heap.size R cap la la av pv (P0 ++ (chV ⟨(x1, x2), sa, sc, sl⟩).take j) s.pins ∧ Below W1.heap.size W1 wr)) (fun y _ _ => sn - (intOf y).toNat)
          case atStart => exact ⟨0, Nat.zero_le _, rfl, HU0.out⟩
          case round =>
            clear HU0
            obtain ⟨j, hj, rfl, HJ⟩ := hrel
            obtain ⟨av1, hA1, hb1⟩ := HJ.out
            obtain ⟨k0, k1, k2⟩ := HK.out wr hb1
            obtain ⟨c0, c1, c2⟩ := HCm.out wr hb1
            by_cases hjlt : j < sn
            · have hjl : j < sl.length := by have := HSn.out; omega
              obtain ⟨b', off', hsa, d0, d1, d2, d3⟩ := (HVs.out wr hb1).stamp hjl
              subst hsa
              obtain ⟨r4, r5⟩ := HSt.out j hjl
              generalize sl[j].b = y1 at *
              generalize sl[j].i = y2 at *
              generalize sl[j].s = y3 at *
              generalize sl[j].v = y4 at *
              obtain ⟨U, hU⟩ : ∃ U, U = wr.alloc (.cells #[.int .i64 y1, .int .i64 y2, .bool y3, .int .i64 y4] 96) := ⟨_, rfl⟩
              obtain ⟨Vb, hVb⟩ : ∃ Vb, Vb = wr.heap.size := ⟨_, rfl⟩
              have hbU : Below wr.heap.size wr U := by rw [hU]; exact (Below.refl _ _).alloc (Nat.le_refl _) _
              have hUb : U.heap[Vb]? = some (.cells #[.int .i64 y1, .int .i64 y2, .bool y3, .int .i64 y4] 96 (0, 0)) := by rw [hU, hVb]; exact heap_alloc_new _ _ rfl
              have hAU := hA1.kept hbU
              have hb1U : Below W1.heap.size W1 U := hb1.trans (hbU.mono hb1.size)
              have z3 := hAU.cells.2.2.2.1
              have z4 := (HK.out U hb1U).2.2
              obtain ⟨z5, z6, _⟩ := HCm.out U hb1U
              have z7 : U.cell? ⟨Vb, 0, none⟩ = some (.int .i64 y1) := by simp [World.cell?, hUb]
              have z8 : U.cell? ⟨Vb, 1, none⟩ = some (.int .i64 y2) := by simp [World.cell?, hUb]
              have y3a : ∀ o, (U.alloc o).cell? ⟨R, 3, none⟩ = some av1 := fun o => Lib.cell?_alloc_some _ z3
              have y4a : ∀ o, (U.alloc o).cell? ⟨Kb, 2, none⟩ = some (.slice (some ⟨b, off, none⟩) cn cc) := fun o => Lib.cell?_alloc_some _ z4
              have y5a : ∀ o, (U.alloc o).cell? ⟨b, off + i * 3, none⟩ = some (.int .i64 x1) := fun o => Lib.cell?_alloc_some _ z5
              have y6a : ∀ o, (U.alloc o).cell? ⟨b, off + i * 3 + 1, none⟩ = some (.int .i64 x2) := fun o => Lib.cell?_alloc_some _ z6
              have y7a : ∀ o, (U.alloc o).cell? ⟨Vb, 0, none⟩ = some (.int .i64 y1) := fun o => Lib.cell?_alloc_some _ z7
              have y8a : ∀ o, (U.alloc o).cell? ⟨Vb, 1, none⟩ = some (.int .i64 y2) := fun o => Lib.cell?_alloc_some _ z8
              have HApp : Hid (∀ ty, ∃ v' w', (Builtin.append_ #[72, 72] ty #[av1, .slice (some ⟨U.heap.size, 0, none⟩) 1 1]).run Tryz.prog (U.drew.alloc (.cells #[.int .i64 x1, .int .i64 x2, .int .i64 y1, .int .i64 y2] 101)) = .ok v' w' ∧ ((∃ a n c, v' = .slice a n c) ∧ (w'.cell? ⟨R, 3, none⟩ = some av1 ∧ w'.frozen? ⟨R, 3, none⟩ = false) ∧ Hid (w'.cell? ⟨Kb, 2, none⟩ = some (.slice (some ⟨b, off, none⟩) cn cc) ∧ w'.cell? ⟨b, off + i * 3, none⟩ = some (.int .i64 x1) ∧ w'.cell? ⟨b, off + i * 3 + 1, none⟩ = some (.int .i64 x2) ∧ w'.cell? ⟨Vb, 0, none⟩ = some (.int .i64 y1) ∧ w'.cell? ⟨Vb, 1, none⟩ = some (.int .i64 y2)) ∧ Hid ((w'.setCell ⟨R, 3, none⟩ v').cell? ⟨Kb, 2, none⟩ = some (.slice (some ⟨b, off, none⟩) cn cc) ∧ (w'.setCell ⟨R, 3, none⟩ v').cell? ⟨b, off + i * 3, none⟩ = some (.int .i64 x1) ∧ (w'.setCell ⟨R, 3, none⟩ v').cell? ⟨b, off + i * 3 + 1, none⟩ = some (.int .i64 x2) ∧ (w'.setCell ⟨R, 3, none⟩ v').cell? ⟨Vb, 0, none⟩ = some (.int .i64 y1) ∧ (w'.setCell ⟨R, 3, none⟩ v').cell? ⟨Vb, 1, none⟩ = some (.int .i64 y2)) ∧ Hid (RB (w'.setCell ⟨R, 3, none⟩ v') W1.heap.size R cap la la v' pv (P0 ++ (chV ⟨(x1, x2), some ⟨b', off', none⟩, sc, sl⟩).take (j + 1)) s.pins ∧ Below W1.heap.size W1 (w'.setCell ⟨R, 3, none⟩ v')))) := fun ty => by
                have hbD : Below W1.heap.size W1 U.drew := ⟨hb1U.os, hb1U.tape, hb1U.output, hb1U.size, hb1U.block⟩
                have hAD : RB (U.drew.alloc (.cells #[.int .i64 x1, .int .i64 x2, .int .i64 y1, .int .i64 y2] 101)) W1.heap.size R cap la la av1 pv (P0 ++ (chV ⟨(x1, x2), some ⟨b', off', none⟩, sc, sl⟩).take j) s.pins := (hAU.same (w' := U.drew) (fun _ _ _ => rfl)).kept ((Below.refl _ _).alloc (Nat.le_refl _) _)
                have hbA := hbD.alloc hbD.size (.cells #[.int .i64 x1, .int .i64 x2, .int .i64 y1, .int .i64 y2] 101)
                obtain ⟨v', w', q1, q2, q3, q4⟩ := akVer.app (w := U.drew.alloc (.cells #[.int .i64 x1, .int .i64 x2, .int .i64 y1, .int .i64 y2] 101)) ty W1.heap.size av1 _ _ hAD.ra (U.drew.heap.size + 1) (some ⟨U.drew.heap.size, 0, none⟩) 1 1 [.int .i64 x1, .int .i64 x2, .int .i64 y1, .int .i64 y2] rfl (CsAt.new U.drew _ _) (by simp) (v4s_one [((x1, x2), (y1, y2))]) (by omega) (by omega) (by have := hbA.size; omega)
                have e5 : P0 ++ (chV ⟨(x1, x2), some ⟨b', off', none⟩, sc, sl⟩).take (j + 1) = (P0 ++ (chV ⟨(x1, x2), some ⟨b', off', none⟩, sc, sl⟩).take j) ++ [((x1, x2), (y1, y2))] := by rw [r5, ← List.append_assoc]
                have q2' : w'.ownsRow W1.heap.size 101 4 v' (P0 ++ (chV ⟨(x1, x2), some ⟨b', off', none⟩, sc, sl⟩).take (j + 1)).length (v4s (P0 ++ (chV ⟨(x1, x2), some ⟨b', off', none⟩, sc, sl⟩).take (j + 1))) := by
                  rw [e5, v4s_append, List.length_append]
                  exact q2
                obtain ⟨z1, z2⟩ := hAD.putAll q2' q3 q4
                have hbg := hbA.grown q3 hbA.size (fun k e => (World.ownsRow.lt hAD.ra k e).1)
                have hbs := hbg.setCell (p := ⟨R, 3, none⟩) (by have := HR.out; simp; omega) v'
                have hVd : (U.drew.alloc (.cells #[.int .i64 x1, .int .i64 x2, .int .i64 y1, .int .i64 y2] 101)).heap[Vb]? = some (.cells #[.int .i64 y1, .int .i64 y2, .bool y3, .int .i64 y4] 96 (0, 0)) := (heap_alloc_old _ _ (blk_lt (w := U.drew) hUb)).trans hUb
                have hVg : w'.heap[Vb]? = some (.cells #[.int .i64 y1, .int .i64 y2, .bool y3, .int .i64 y4] 96 (0, 0)) := (q3.block Vb (blk_lt hVd) (fun e => by
                  obtain ⟨cur, hc⟩ := rowBlock hAD.ra e.symm
                  rw [hVd] at hc
                  cases hc)).trans hVd
                have hVR : Vb ≠ R := fun e => by
                  have h1 := hAU.bk
                  rw [← e, hUb] at h1
                  cases h1
                have hVs : (w'.setCell ⟨R, 3, none⟩ v').heap[Vb]? = some (.cells #[.int .i64 y1, .int .i64 y2, .bool y3, .int .i64 y4] 96 (0, 0)) := (heap_setCell_other _ _ _ _ (fun e => hVR e)).trans hVg
                refine ⟨v', w', q1, ?_, z1, ⟨(HK.out _ hbg).2.2, (HCm.out _ hbg).1, (HCm.out _ hbg).2.1, by simp [World.cell?, hVg], by simp [World.cell?, hVg]⟩, ⟨(HK.out _ hbs).2.2, (HCm.out _ hbs).1, (HCm.out _ hbs).2.1, by simp only [World.cell?, hVs]; rfl, by simp only [World.cell?, hVs]; rfl⟩, z2, hbs⟩
                · obtain ⟨_, ⟨rfl, _⟩ | ⟨g, cp, cur, rfl, _⟩⟩ := q2'
                  · exact ⟨_, _, _, rfl⟩
                  · exact ⟨_, _, _, rfl⟩
              have z3d : U.drew.cell? ⟨R, 3, none⟩ = some av1 := z3
              have y3d : ∀ o, (U.drew.alloc o).cell? ⟨R, 3, none⟩ = some av1 := fun o => y3a o
              have y3e : ∀ o, (U.alloc o).drew.cell? ⟨R, 3, none⟩ = some av1 := fun o => y3a o
              have HS1 : Hid (U.drew.cell? ⟨Kb, 2, none⟩ = some (.slice (some ⟨b, off, none⟩) cn cc) ∧ U.drew.cell? ⟨b, off + i * 3, none⟩ = some (.int .i64 x1) ∧ U.drew.cell? ⟨b, off + i * 3 + 1, none⟩ = some (.int .i64 x2) ∧ U.drew.cell? ⟨Vb, 0, none⟩ = some (.int .i64 y1) ∧ U.drew.cell? ⟨Vb, 1, none⟩ = some (.int .i64 y2)) := ⟨z4, z5, z6, z7, z8⟩
              have HS2 : Hid (∀ o, (U.drew.alloc o).cell? ⟨Kb, 2, none⟩ = some (.slice (some ⟨b, off, none⟩) cn cc) ∧ (U.drew.alloc o).cell? ⟨b, off + i * 3, none⟩ = some (.int .i64 x1) ∧ (U.drew.alloc o).cell? ⟨b, off + i * 3 + 1, none⟩ = some (.int .i64 x2) ∧ (U.drew.alloc o).cell? ⟨Vb, 0, none⟩ = some (.int .i64 y1) ∧ (U.drew.alloc o).cell? ⟨Vb, 1, none⟩ = some (.int .i64 y2)) := fun o => ⟨y4a o, y5a o, y6a o, y7a o, y8a o⟩
              clear hA1 hb1 hbU hUb hAU hb1U r4 r5 HJ HSt HVs HT HCm
              go_wp2_with fail
              rw [← hU, ← hVb]
              clear hU hVb k0 k1 k2 c0 c1 c2 d0 d1 d2 d3
              obtain ⟨v6, w6, hq6, ⟨a6, n6, c6, hv6⟩, ⟨hc6, hf6⟩, _, _, HR6⟩ := HApp.out 72
              subst hv6
              have hq7 : (Builtin.append_ #[72, 72] 72 #[av1, .slice (some ⟨U.heap.size, 0, none⟩) 1 1]).run Tryz.prog (U.alloc (.cells #[.int .i64 x1, .int .i64 x2, .int .i64 y1, .int .i64 y2] 101)).drew = .ok (.slice a6 n6 c6) w6 := hq6
              clear hq6
              simp [go_sem] at hq7
              clear HApp HS1 HS2
              go_region
              clear z3 z3d y3d y3e z4 z5 z6 z7 z8 y3a y4a y5a y6a y7a y8a hc6 hf6 hq7
              go_wp2
              exact ⟨⟨j + 1, by omega, by go_num, _, HR6.out⟩, by simp [intOf]; omega⟩
            · have hje : j = sn := by omega
              subst hje
              have HF : Hid (∃ av, RB wr W1.heap.size R cap la la av pv P1 s.pins ∧ Below W1.heap.size W1 wr) := by
                obtain ⟨av, hA, hb⟩ := HJ.out
                rw [← HT.out] at hA
                exact ⟨av, hA, hb⟩
              clear HJ HSt HVs HT hA1 hb1
              go_wp2
              refine ⟨⟨i + 1, by omega, by go_num, ?_⟩, by simp [intOf]; omega⟩
              rw [hP1]
              exact HF.out
        · have hie : i = cn := by omega
          subst hie
          rw [HE.out.2.1, List.take_length] at hA0
          obtain ⟨a9, n9, c9, hav, hn9⟩ : ∃ a n c, av0 = .slice a n c ∧ n = snSize s.chs := by
            have h3 := HSz.out.1
            obtain ⟨_, ⟨h1, h2⟩ | ⟨g, cp, cur, h1, _⟩⟩ := hA0.ra
            · exact ⟨_, _, _, h1, by omega⟩
            · exact ⟨_, _, _, h1, h3⟩
          subst hav
          have z3 := hA0.cells.2.2.2.1
          have HN9 := hidC hn9
          have HFin : Hid ((cap < (n9 : Int) → RRPost w cap s (.returned (.tuple #[.pointer none, .int .i64 100])) wr) ∧ (¬ cap < (n9 : Int) → RRPost w cap s (.returned (.tuple #[ptr R, .int .i64 0])) wr)) := by
            refine ⟨fun h => ?_, fun h => ?_⟩
            · have h1 := restE_room hcap HCR.out (by rw [← HN9.out]; exact h)
              exact .inl ⟨by rw [h1]; decide, by rw [h1], HBw.out _ hb0⟩
            · have h1 := restE_ok hcap HCR.out (by rw [← HN9.out]; exact h)
              refine .inr ⟨h1, R, .slice a9 n9 c9, pv, rfl, ?_, HBw.out _ hb0⟩
              have h2 : w.heap.size ≤ W1.heap.size := HB.out.1.size
              have h3 := HE.out.2.2.2
              rw [h3] at hA0
              exact ⟨hA0.bk, ownsRow_base_a hA0.ra h2, ownsRow_base_a hA0.rp h2, Nat.le_trans h2 hA0.le⟩
          clear hA0 hb0 HI hn9
          by_cases h5 : cap < (n9 : Int)
          · have h5b : decide (cap < (n9 : Int)) = true := decide_eq_true h5
            have HX := hidC (HFin.out.1 h5)
            clear HFin
            go_wp2
            go_ret2
            exact HX.out
          · have h5b : decide (cap < (n9 : Int)) = false := decide_eq_false h5
            have HX := hidC (HFin.out.2 h5)
            clear HFin
            go_wp2
            go_ret2
            exact HX.out
    )
end Go.Proofs.YtbmohlkcmhhpgaaGreat
/-
  copySnapshot, the walk.
-/
namespace Go.Proofs.YtbmohlkcmhhpgaaGreat
open Go.RowKit Go.Sort

set_option maxRecDepth 100000 in
set_option maxHeartbeats 4000000 in
theorem copySn_any (N : Nat) (w : World) (s : Sn) (h : SnAt N w s) (hN : N ≤ w.heap.size) (ho : SnOK s) :
    Calls Tryz.prog 12 #[snv s] w fun e w' => CpPost w s e w' := by
  obtain ⟨pn, hpn⟩ : ∃ pn, pn = s.pins.length := ⟨_, rfl⟩
  obtain ⟨cn, hcn⟩ : ∃ cn, cn = s.chs.length := ⟨_, rfl⟩
  obtain ⟨pa, hpa⟩ : ∃ pa, pa = s.pa := ⟨_, rfl⟩
  obtain ⟨ca, hca⟩ : ∃ ca, ca = s.ca := ⟨_, rfl⟩
  obtain ⟨pc, hpc⟩ : ∃ pc, pc = s.pc := ⟨_, rfl⟩
  obtain ⟨cc, hcc⟩ : ∃ cc, cc = s.cc := ⟨_, rfl⟩
  obtain ⟨la, hla⟩ : ∃ la, la = s.la := ⟨_, rfl⟩
  have hnp := ho.np
  have hnc := ho.nc
  have hsv : snv s = .agg #[.int .i64 la, .slice pa pn pc, .slice ca cn cc] := by rw [hla, hpa, hpn, hpc, hca, hcn, hcc]; rfl
  rw [← hpn] at hnp
  rw [← hcn] at hnc
  obtain ⟨W1, hW1⟩ : ∃ W1, W1 = ((w.alloc (.cells #[.int .i64 la, .slice pa pn pc, .slice ca cn cc] 25)).alloc (.cells #[.int .i64 0, .slice none 0 0, .slice none 0 0] 25)).alloc (.cells #[.int .i64 la, .slice none 0 0, .slice none 0 0] 25) := ⟨_, rfl⟩
  obtain ⟨Kb, hKb⟩ : ∃ Kb, Kb = w.heap.size := ⟨_, rfl⟩
  obtain ⟨Rb, hRb⟩ : ∃ Rb, Rb = w.heap.size + 1 := ⟨_, rfl⟩
  obtain ⟨Ob, hOb⟩ : ∃ Ob, Ob = w.heap.size + 1 + 1 := ⟨_, rfl⟩
  have HB : Hid (Below w.heap.size w W1 ∧ W1.heap[Kb]? = some (.cells #[.int .i64 la, .slice pa pn pc, .slice ca cn cc] 25 (0, 0)) ∧ W1.heap[Rb]? = some (.cells #[.int .i64 0, .slice none 0 0, .slice none 0 0] 25 (0, 0)) ∧ W1.heap[Ob]? = some (.cells #[.int .i64 la, .slice none 0 0, .slice none 0 0] 25 (0, 0)) ∧ W1.heap.size = w.heap.size + 3) := by
    rw [hW1, hKb, hRb, hOb]
    refine ⟨((((Below.refl _ _).alloc (Nat.le_refl _) _).alloc (by simp) _).alloc (by simp; omega) _), ?_, ?_, heap_alloc_new _ _ (by simp), by simp⟩
    · rw [heap_alloc_old _ _ (by simp; omega), heap_alloc_old _ _ (by simp)]
      exact heap_alloc_new _ _ rfl
    · rw [heap_alloc_old _ _ (by simp)]
      exact heap_alloc_new _ _ (by simp)
  have HS : Hid (∀ W, Below w.heap.size w W → SnAt N W s) := fun W hW => h.below (hW.mono hN)
  have HE := hidC (And.intro hpn (And.intro hcn (And.intro hpa (And.intro hca hla))))
  have HP0 : Hid (pa = none → pc = 0) := by rw [hpa, hpc]; exact h.p0
  have HV0 := hidC h.v0
  have HNv := hidC ho.nv
  have k0 : ∀ o, ((w.alloc (.cells #[.int .i64 la, .slice pa pn pc, .slice ca cn cc] 25)).alloc o).cell? ⟨w.heap.size, 0, none⟩ = some (.int .i64 la) := fun o => Lib.cell?_alloc_some _ (by
    have hb : (w.alloc (.cells #[.int .i64 la, .slice pa pn pc, .slice ca cn cc] 25)).heap[w.heap.size]? = some (.cells #[.int .i64 la, .slice pa pn pc, .slice ca cn cc] 25 (0, 0)) := heap_alloc_new _ _ rfl
    rw [World.cell?, hb]; rfl)
  have k1 : W1.cell? ⟨Kb, 1, none⟩ = some (.slice pa pn pc) := by have h1 := HB.out.2.1; simp [World.cell?, h1]
  have q1 : W1.cell? ⟨Ob, 1, none⟩ = some (.slice none 0 0) := by have h1 := HB.out.2.2.2.1; simp [World.cell?, h1]
  have HNe : Hid (Kb ≠ Ob ∧ Rb ≠ Ob ∧ Kb ≠ Rb ∧ w.heap.size ≤ Kb ∧ w.heap.size ≤ Rb ∧ w.heap.size ≤ Ob) := by refine ⟨?_, ?_, ?_, ?_, ?_, ?_⟩ <;> omega
  have HApp : Hid (∀ ty, ∃ v' w', (Builtin.append_ #[22, 22] ty #[.slice none 0 0, .slice pa pn pc]).run Tryz.prog W1 = .ok v' w' ∧ ((∃ a n c, v' = .slice a n c) ∧ (w'.cell? ⟨Ob, 1, none⟩ = some (.slice none 0 0) ∧ w'.frozen? ⟨Ob, 1, none⟩ = false) ∧ Hid (CpB (w'.setCell ⟨Ob, 1, none⟩ v') w.heap.size Ob la v' (.slice none 0 0) s.pins [] ∧ (w'.setCell ⟨Ob, 1, none⟩ v').heap[Kb]? = some (.cells #[.int .i64 la, .slice pa pn pc, .slice ca cn cc] 25 (0, 0)) ∧ (w'.setCell ⟨Ob, 1, none⟩ v').heap[Rb]? = some (.cells #[.int .i64 0, .slice none 0 0, .slice none 0 0] 25 (0, 0)) ∧ Below w.heap.size w (w'.setCell ⟨Ob, 1, none⟩ v')))) := fun ty => by
    have hsrc := (HS.out W1 HB.out.1).ps
    rw [← HE.out.2.2.1] at hsrc
    obtain ⟨v', w', z1, z2, z3, z4, z5⟩ := appPins (w := W1) ty w.heap.size N pa pc s.pins hsrc HP0.out (by rw [← HE.out.1]; exact hnp) HB.out.1.size
    rw [← HE.out.1] at z1
    have hbO : w'.heap[Ob]? = _ := (z4.block Ob (blk_lt HB.out.2.2.2.1) (by simp)).trans HB.out.2.2.2.1
    have hbK : w'.heap[Kb]? = _ := (z4.block Kb (blk_lt HB.out.2.1) (by simp)).trans HB.out.2.1
    have hbR : w'.heap[Rb]? = _ := (z4.block Rb (blk_lt HB.out.2.2.1) (by simp)).trans HB.out.2.2.1
    have hb' : Below w.heap.size w w' := HB.out.1.grown z4 HB.out.1.size (fun k e => by cases e)
    refine ⟨v', w', z1, z2, ⟨by simp [World.cell?, hbO], frozen_of_row _ _ _ _ _ hbO⟩, ⟨heap_setCell_same w' Ob 1 _ _ v' hbO, rowSame z3 (fun g hg => heap_setCell_other _ _ _ _ (fun e => ?_)), World.ownsRow_nil _ _ _ _, by simp, HNe.out.2.2.2.2.2⟩, (heap_setCell_other _ _ _ _ (fun e => HNe.out.1 e)).trans hbK, (heap_setCell_other _ _ _ _ (fun e => HNe.out.2.1 e)).trans hbR, hb'.setCell (p := ⟨Ob, 1, none⟩) (by have := HNe.out.2.2.2.2.2; simp; omega) _⟩
    obtain ⟨cur, hc⟩ := rowBlock z3 hg
    have e' : g = Ob := e
    rw [e', hbO] at hc
    cases hc
  rw [hsv]
  have HOb := hidC hOb
  clear h hpn hcn hpa hca hpc hcc hla ho hsv
  go_enter Tryz.func12, Tryz.ntmps12
  go_upto_region 2 with fail
  rw [← hW1, ← hOb, ← hRb, ← hKb]
  clear hW1 hKb hRb hOb k0
  go_wp2_with (at_builtin; refine wpL_appI rfl _ _ 22 rfl (.slice none 0 0) (.slice pa pn pc) rfl rfl HApp.out ?_; rintro v' w2 ⟨⟨a2, n2, c2, rfl⟩, ⟨hc2, hf2⟩, HC2⟩)
  obtain ⟨W2, hW2⟩ : ∃ W2, W2 = w2.setCell ⟨Ob, 1, none⟩ (.slice a2 n2 c2) := ⟨_, rfl⟩
  rw [← hW2] at HC2 ⊢
  clear hW2 k1 q1 HApp hc2 hf2
  obtain ⟨pv, hpv⟩ : ∃ pv, pv = Value.slice a2 n2 c2 := ⟨_, rfl⟩
  rw [← hpv] at HC2
  have HPv := hidC hpv
  clear hpv
  go_wp2_with fail
  go_loopw [4, 5] (fun y _ wr => ∃ (i : Nat) (cv : Value) (ds : List Ch), i ≤ cn ∧ y = .int .i64 (i : Int) ∧ Hid (CpB wr w.heap.size Ob la pv cv s.pins ds ∧ wr.heap[Kb]? = some (.cells #[.int .i64 la, .slice pa pn pc, .slice ca cn cc] 25 (0, 0)) ∧ wr.heap[Rb]? = some (.cells #[.int .i64 0, .slice none 0 0, .slice none 0 0] 25 (0, 0)) ∧ Below w.heap.size w wr ∧ kl ds = kl (s.chs.take i))) (fun y _ _ => cn - (intOf y).toNat)
  case atStart => exact ⟨0, _, [], Nat.zero_le _, rfl, HC2.out.1, HC2.out.2.1, HC2.out.2.2.1, HC2.out.2.2.2, rfl⟩
  case round =>
    clear HC2
    obtain ⟨i, cv, ds, hi, rfl, HI⟩ := hrel
    have k2 : wr.cell? ⟨Kb, 2, none⟩ = some (.slice ca cn cc) := by have h1 := HI.out.2.1; simp [World.cell?, h1]
    by_cases hlt : i < cn
    · have hil : i < s.chs.length := by have := HE.out.2.1; omega
      obtain ⟨b, off, hca, e0, e1, e2⟩ := (HS.out wr HI.out.2.2.2.1).chain (i := i) hil
      rw [← HE.out.2.2.2.1] at hca
      subst hca
      have HIb : Hid (b < w.heap.size) := by
        obtain ⟨h1, _⟩ := ccs_at s.chs i hil
        obtain ⟨b', off', e, hb', _⟩ := (HS.out wr HI.out.2.2.2.1).cs _ _ h1
        rw [← HE.out.2.2.2.1] at e
        cases e
        show _ < _
        omega
      have hdl : ds.length ≤ 100000 := by
        have h1 := congrArg List.length HI.out.2.2.2.2
        simp [kl] at h1
        omega
      have hsn := HNv.out _ (List.getElem_mem hil)
      -- the first append
      obtain ⟨v1, w1, z1, z2, z3, z4⟩ := akStp.app (w := wr.drew) 48 w.heap.size (.slice none 0 0) 0 [] (World.ownsRow_nil _ _ _ _) N s.chs[i].a s.chs[i].l.length s.chs[i].c (scs s.chs[i].l) (scs_length _) (fun j u hu => (HS.out wr HI.out.2.2.2.1).vs _ (List.getElem_mem hil) j u hu) (HV0.out _ (List.getElem_mem hil)) (scs_one _) (by omega) (by omega) HI.out.2.2.2.1.size
      rw [Nat.zero_add, List.nil_append] at z2
      obtain ⟨a1, n1, c1, rfl⟩ : ∃ a n c, v1 = .slice a n c := by
        obtain ⟨_, ⟨rfl, _⟩ | ⟨g, cp, cur, rfl, _⟩⟩ := z2
        · exact ⟨_, _, _, rfl⟩
        · exact ⟨_, _, _, rfl⟩
      obtain ⟨hn1, _, _, _⟩ := rowCs z2
      subst hn1
      have hw1 : Below wr.heap.size wr w1 := by
        have h1 : Below wr.drew.heap.size wr.drew w1 := (Below.refl _ _).grown z3 (Nat.le_refl _) (fun k e => by cases e)
        exact ⟨h1.os, h1.tape, h1.output, h1.size, h1.block⟩
      have hC1 := HI.out.1.kept hw1
      have hb1 : Below w.heap.size w w1 := HI.out.2.2.2.1.trans (hw1.mono HI.out.2.2.2.1.size)
      -- the second one
      obtain ⟨V, hV⟩ : ∃ V, V = w1.alloc (.cells #[.int .i64 s.chs[i].k.1, .int .i64 s.chs[i].k.2, .slice a1 s.chs[i].l.length c1] 50) := ⟨_, rfl⟩
      have hbV : Below w1.heap.size w1 V := by rw [hV]; exact (Below.refl _ _).alloc (Nat.le_refl _) _
      have hCV := hC1.kept hbV
      have hbwV : Below w.heap.size w V := hb1.trans (hbV.mono hb1.size)
      have hcs : CsAt (w1.heap.size + 1) V (some ⟨w1.heap.size, 0, none⟩) [.int .i64 s.chs[i].k.1, .int .i64 s.chs[i].k.2, .slice a1 s.chs[i].l.length c1] := by rw [hV]; exact CsAt.new w1 _ _
      obtain ⟨v2, w2, y1, y2, y3, y4⟩ := akCh.app (w := V) 23 w.heap.size cv _ _ hCV.rc (w1.heap.size + 1) (some ⟨w1.heap.size, 0, none⟩) 1 1 [.int .i64 s.chs[i].k.1, .int .i64 s.chs[i].k.2, .slice a1 s.chs[i].l.length c1] rfl hcs (by simp) (by intro u hu; simp at hu; rcases hu with rfl | rfl | rfl <;> rfl) (by omega) (by omega) hbwV.size
      obtain ⟨a2', n2', c2', rfl⟩ : ∃ a n c, v2 = .slice a n c := by
        obtain ⟨_, ⟨rfl, _⟩ | ⟨g, cp, cur, rfl, _⟩⟩ := y2
        · exact ⟨_, _, _, rfl⟩
        · exact ⟨_, _, _, rfl⟩
      have hz2V : V.ownsRow w.heap.size 96 4 (.slice a1 s.chs[i].l.length c1) s.chs[i].l.length (scs s.chs[i].l) := by
        exact rowSame z2 (fun g hg => hbV.block g (World.ownsRow.lt z2 g hg).2)
      have y2' : w2.ownsRow w.heap.size 50 3 (.slice a2' n2' c2') (ds.length + 1) (ccs (ds ++ [⟨s.chs[i].k, a1, c1, s.chs[i].l⟩])) := by
        rw [ccs_append]
        have e9 : ccs [⟨s.chs[i].k, a1, c1, s.chs[i].l⟩] = [.int .i64 s.chs[i].k.1, .int .i64 s.chs[i].k.2, .slice a1 s.chs[i].l.length c1] := rfl
        rw [e9]
        exact y2
      obtain ⟨⟨g1, g2⟩, hCf⟩ := hCV.put (c := ⟨s.chs[i].k, a1, c1, s.chs[i].l⟩) hz2V y2' y3 y4
      have HN : Hid (CpB (w2.setCell ⟨Ob, 2, none⟩ (.slice a2' n2' c2')) w.heap.size Ob la pv (.slice a2' n2' c2') s.pins (ds ++ [⟨s.chs[i].k, a1, c1, s.chs[i].l⟩]) ∧ (w2.setCell ⟨Ob, 2, none⟩ (.slice a2' n2' c2')).heap[Kb]? = some (.cells #[.int .i64 la, .slice pa pn pc, .slice (some ⟨b, off, none⟩) cn cc] 25 (0, 0)) ∧ (w2.setCell ⟨Ob, 2, none⟩ (.slice a2' n2' c2')).heap[Rb]? = some (.cells #[.int .i64 0, .slice none 0 0, .slice none 0 0] 25 (0, 0)) ∧ Below w.heap.size w (w2.setCell ⟨Ob, 2, none⟩ (.slice a2' n2' c2')) ∧ kl (ds ++ [⟨s.chs[i].k, a1, c1, s.chs[i].l⟩]) = kl (s.chs.take (i + 1))) := by
        have hkeep : ∀ {k : Nat} {cur : Array Value}, wr.heap[k]? = some (.cells cur 25 (0, 0)) → k ≠ Ob → (w2.setCell ⟨Ob, 2, none⟩ (.slice a2' n2' c2')).heap[k]? = some (.cells cur 25 (0, 0)) := fun {k cur} hk hne => by
          have h1 : V.heap[k]? = _ := (hbV.block k (Nat.lt_of_lt_of_le (blk_lt hk) hw1.size)).trans ((hw1.block k (blk_lt hk)).trans hk)
          refine (heap_setCell_other _ _ _ _ (fun e => hne e)).trans ((y3.block k (blk_lt h1) (fun e => ?_)).trans h1)
          obtain ⟨cur', hc'⟩ := rowBlock hCV.rc e.symm
          rw [h1] at hc'
          cases hc'
        refine ⟨hCf, hkeep HI.out.2.1 HNe.out.1, hkeep HI.out.2.2.1 HNe.out.2.1, ?_, ?_⟩
        · exact (hbwV.grown y3 hbwV.size (fun k e => (World.ownsRow.lt hCV.rc k e).1)).setCell (p := ⟨Ob, 2, none⟩) (by have := HNe.out.2.2.2.2.2; simp; omega) _
        · rw [List.take_succ_eq_append_getElem hil]
          have h1 := HI.out.2.2.2.2
          unfold kl at h1 ⊢
          rw [List.map_append, List.map_append, h1]
          rfl
      have p1 := HI.out.1.cells.2.2
      have p2 := hC1.cells.2.2
      have p3 : ∀ o, (w1.alloc o).cell? ⟨Ob, 2, none⟩ = some cv := fun o => Lib.cell?_alloc_some _ p2
      have hK1 : w1.heap[Kb]? = _ := (hw1.block _ (blk_lt HI.out.2.1)).trans HI.out.2.1
      have p4 : w1.cell? ⟨Kb, 2, none⟩ = some (.slice (some ⟨b, off, none⟩) cn cc) := by simp [World.cell?, hK1]
      have hbc : ∀ j x, wr.cell? ⟨b, j, none⟩ = some x → w1.cell? ⟨b, j, none⟩ = some x := fun j x hx => (hw1.cell (p := ⟨b, j, none⟩) (World.block_lt_of_cell? _ _ hx)).trans hx
      have p5 := hbc _ _ e0
      have p6 := hbc _ _ e1
      have p7 := hbc _ _ e2
      obtain ⟨nv, hnv⟩ : ∃ nv, nv = Value.slice none 0 0 := ⟨_, rfl⟩
      rw [← hnv] at z1
      generalize s.chs[i].k.1 = x1 at *
      generalize s.chs[i].k.2 = x2 at *
      generalize hsl : s.chs[i].l.length = sn at *
      generalize s.chs[i].a = sa at *
      generalize s.chs[i].c = sc at *
      rw [hV] at y1
      clear hC1 hCV hbV hbwV hcs hz2V y2' hCf hw1 hb1 hK1 hbc z2 z3 z4 y2 y3 y4 hV
      simp [go_sem] at z1
      simp [go_sem] at y1
      go_wp2_with fail
      rw [← hnv]
      have HNv2 := hidC hnv
      clear hnv
      go_region
      have HNf := hidC HN.out
      clear z1 y1 p1 p2 p3 p4 p5 p6 p7 g1 g2 e0 e1 e2 k2 HN
      have hnv := HNv2.out
      subst hnv
      clear HNv2
      go_wp2
      exact ⟨⟨i + 1, _, _, by omega, by go_num, HNf.out⟩, by simp [intOf]; omega⟩
    · have hie : i = cn := by omega
      subst hie
      have HC := hidC HI.out.1
      obtain ⟨o0, o1, o2⟩ := HI.out.1.cells
      obtain ⟨ca', cn', cc', hcv⟩ : ∃ a n c, cv = .slice a n c := by
        obtain ⟨_, ⟨h1, _⟩ | ⟨g, cp, cur, h1, _⟩⟩ := HI.out.1.rc
        · exact ⟨_, _, _, h1⟩
        · exact ⟨_, _, _, h1⟩
      subst hcv
      rw [HPv.out] at o1
      have hRb := HI.out.2.2.1
      have r0 : wr.cell? ⟨Rb, 0, none⟩ = some (.int .i64 0) := by simp [World.cell?, hRb]
      have r1 : wr.cell? ⟨Rb, 1, none⟩ = some (.slice none 0 0) := by simp [World.cell?, hRb]
      have r2 : wr.cell? ⟨Rb, 2, none⟩ = some (.slice none 0 0) := by simp [World.cell?, hRb]
      have f0 : wr.frozen? ⟨Rb, 0, none⟩ = false := frozen_of_row _ _ _ _ _ hRb
      have f1 : wr.frozen? ⟨Rb, 1, none⟩ = false := frozen_of_row _ _ _ _ _ hRb
      have f2 : wr.frozen? ⟨Rb, 2, none⟩ = false := frozen_of_row _ _ _ _ _ hRb
      obtain ⟨F, hF⟩ : ∃ F, F = ((wr.setCell ⟨Rb, 0, none⟩ (.int .i64 la)).setCell ⟨Rb, 1, none⟩ (.slice a2 n2 c2)).setCell ⟨Rb, 2, none⟩ (.slice ca' cn' cc') := ⟨_, rfl⟩
      have HX : Hid (F.heap[Rb]? = some (.cells #[.int .i64 la, .slice a2 n2 c2, .slice ca' cn' cc'] 25 (0, 0)) ∧ CpPost w s (.returned (.agg #[.int .i64 la, .slice a2 n2 c2, .slice ca' cn' cc'])) F) := by
        have t0 := heap_setCell_same wr Rb 0 _ _ (.int .i64 la) hRb
        have t1 := heap_setCell_same _ Rb 1 _ _ (.slice a2 n2 c2) t0
        have t2 := heap_setCell_same _ Rb 2 _ _ (.slice ca' cn' cc') t1
        have hs : ∀ k, k ≠ Rb → F.heap[k]? = wr.heap[k]? := fun k hk => by
          rw [hF, heap_setCell_other _ _ _ _ (fun e => hk e), heap_setCell_other _ _ _ _ (fun e => hk e), heap_setCell_other _ _ _ _ (fun e => hk e)]
        have hrow : ∀ {T : TypeId} {sz n : Nat} {v : Value} {xs : List Value}, T ≠ 25 → wr.ownsRow w.heap.size T sz v n xs → F.ownsRow w.heap.size T sz v n xs := fun h1 hr => rowSame hr (fun g hg' => hs g (fun e => by
          obtain ⟨cur, hc⟩ := rowBlock hr hg'
          rw [e, hRb] at hc; cases hc; exact h1 rfl))
        have hCF : CpB F w.heap.size Ob la (.slice a2 n2 c2) (.slice ca' cn' cc') s.pins ds := by
          have h1 := HC.out
          rw [HPv.out] at h1
          exact ⟨(hs Ob (fun e => HNe.out.2.1 e.symm)).trans h1.ob, hrow (by decide) h1.rp, hrow (by decide) h1.rc, fun c hc => hrow (by decide) (h1.rv c hc), h1.le⟩
        have hbF : Below w.heap.size w F := by
          rw [hF]
          have hR := HNe.out.2.2.2.2.1
          exact ((HI.out.2.2.2.1.setCell (p := ⟨Rb, 0, none⟩) (by simp; omega) _).setCell (p := ⟨Rb, 1, none⟩) (by simp; omega) _).setCell (p := ⟨Rb, 2, none⟩) (by simp; omega) _
        have hkl := HI.out.2.2.2.2
        rw [HE.out.2.1, List.take_length] at hkl
        refine ⟨by rw [hF]; exact t2, hCF.fin HE.out.2.2.2.2 rfl hkl hbF⟩
      clear HI HC hRb
      go_wp2
      rw [← hF]
      clear hF
      have hFb := HX.out.1
      have s0 : F.cell? ⟨Rb, 0, none⟩ = some (.int .i64 la) := by simp [World.cell?, hFb]
      have s1 : F.cell? ⟨Rb, 1, none⟩ = some (.slice a2 n2 c2) := by simp [World.cell?, hFb]
      have s2 : F.cell? ⟨Rb, 2, none⟩ = some (.slice ca' cn' cc') := by simp [World.cell?, hFb]
      refine bodyPost_ret (v := .agg #[.int .i64 la, .slice a2 n2 c2, .slice ca' cn' cc']) ?_ rfl HX.out.2
      simp [results, Tryz.f12, go_sem, s0, s1, s2]
end Go.Proofs.YtbmohlkcmhhpgaaGreat
/-
  spoil, the walk.
-/
namespace Go.Proofs.YtbmohlkcmhhpgaaGreat
open Go.RowKit Go.Sort

theorem Shp.typ {n0 n1 : Nat} {w : World} {ao : Option Addr} {n : Nat} {T : TypeId} {sz : Nat} (h : Shp n0 n1 w ao n T sz) {i g : Nat} (hi : i < n) (hg : ao = some ⟨g, 0, none⟩) : ∃ cur, w.heap[g]? = some (.cells cur T (0, 0)) := by
  rcases h with h | ⟨g', cur, h1, h2, _⟩
  · omega
  · rw [hg] at h1; cases h1; exact ⟨cur, h2⟩
theorem Rest.set {w : World} {s : Sn} {i g j : Nat} {v : Value} (h : Rest w s i) (hne : ∀ gc, s.ca = some ⟨gc, 0, none⟩ → gc ≠ g) : Rest (w.setCell ⟨g, j, none⟩ v) s i := fun k hk hik => by
  obtain ⟨gc, h1, h2⟩ := h k hk hik
  refine ⟨gc, h1, ?_⟩
  have h3 : (w.setCell ⟨g, j, none⟩ v).heap[gc]? = w.heap[gc]? := heap_setCell_other _ _ _ _ (fun e => hne gc h1 e)
  unfold World.cell? at h2 ⊢
  simp only at h2 ⊢
  rw [h3]
  exact h2
theorem cell_set_ne {w : World} {g j m : Nat} {cur : Array Value} {T : TypeId} {v : Value} (h : w.heap[g]? = some (.cells cur T (0, 0))) (hm : m ≠ j) : (w.setCell ⟨g, j, none⟩ v).cell? ⟨g, m, none⟩ = w.cell? ⟨g, m, none⟩ := by
  have h1 := heap_setCell_same w g j _ _ v h
  simp only [World.cell?, h1, h]
  rw [Array.getElem?_setIfInBounds_ne (fun e => hm e.symm)]
theorem Rest.setC {w : World} {s : Sn} {i gc j : Nat} {v : Value} {cur : Array Value} {T : TypeId} (h : Rest w s (i + 1)) (hty : w.heap[gc]? = some (.cells cur T (0, 0))) (hj : j < (i + 1) * 3) : Rest (w.setCell ⟨gc, j, none⟩ v) s (i + 1) := fun k hk hik => by
  obtain ⟨g, h1, h2⟩ := h k hk hik
  refine ⟨g, h1, ?_⟩
  have hkj : (i + 1) * 3 ≤ k * 3 := Nat.mul_le_mul_right 3 hik
  by_cases e : g = gc
  · subst e
    rw [cell_set_ne hty (by omega)]
    exact h2
  · have h3 : (w.setCell ⟨gc, j, none⟩ v).heap[g]? = w.heap[g]? := heap_setCell_other _ _ _ _ (fun e' => e e')
    unfold World.cell? at h2 ⊢
    simp only at h2 ⊢
    rw [h3]
    exact h2
set_option maxRecDepth 100000 in
set_option maxHeartbeats 4000000 in
theorem spoil_any (n0 n1 : Nat) (w : World) (s : Sn) (h : SnSh n0 n1 w s) (hr : Rest w s 0) (hn : n1 ≤ w.heap.size) (ho : SnOK s) :
    Calls Tryz.prog 14 #[snv s] w fun e w' => SpPost n0 n1 w e w' := by
  obtain ⟨pn, hpn⟩ : ∃ pn, pn = s.pins.length := ⟨_, rfl⟩
  obtain ⟨cn, hcn⟩ : ∃ cn, cn = s.chs.length := ⟨_, rfl⟩
  obtain ⟨pa, hpa⟩ : ∃ pa, pa = s.pa := ⟨_, rfl⟩
  obtain ⟨ca, hca⟩ : ∃ ca, ca = s.ca := ⟨_, rfl⟩
  obtain ⟨pc, hpc⟩ : ∃ pc, pc = s.pc := ⟨_, rfl⟩
  obtain ⟨cc, hcc⟩ : ∃ cc, cc = s.cc := ⟨_, rfl⟩
  obtain ⟨la, hla⟩ : ∃ la, la = s.la := ⟨_, rfl⟩
  have hnp := ho.np
  have hnc := ho.nc
  have hsv : snv s = .agg #[.int .i64 la, .slice pa pn pc, .slice ca cn cc] := by rw [hla, hpa, hpn, hpc, hca, hcn, hcc]; rfl
  rw [← hpn] at hnp
  rw [← hcn] at hnc
  obtain ⟨W1, hW1⟩ : ∃ W1, W1 = w.alloc (.cells #[.int .i64 la, .slice pa pn pc, .slice ca cn cc] 25) := ⟨_, rfl⟩
  obtain ⟨Kb, hKb⟩ : ∃ Kb, Kb = w.heap.size := ⟨_, rfl⟩
  have HB : Hid (Below w.heap.size w W1 ∧ W1.heap[Kb]? = some (.cells #[.int .i64 la, .slice pa pn pc, .slice ca cn cc] 25 (0, 0)) ∧ n1 ≤ Kb) := by
    rw [hW1, hKb]
    exact ⟨(Below.refl _ _).alloc (Nat.le_refl _) _, heap_alloc_new _ _ rfl, hn⟩
  have HK : Hid (∀ W, Spl n0 n1 W1 W → W.cell? ⟨Kb, 1, none⟩ = some (.slice pa pn pc) ∧ W.cell? ⟨Kb, 2, none⟩ = some (.slice ca cn cc)) := fun W hW => by
    have h4 : W.heap[Kb]? = _ := (hW.fr.block _ (blk_lt HB.out.2.1) (fun e => by have := HB.out.2.2; omega)).trans HB.out.2.1
    refine ⟨?_, ?_⟩ <;> simp [World.cell?, h4]
  have H1 : Hid (SnSh n0 n1 W1 s ∧ Rest W1 s 0) := by
    refine ⟨h.below (HB.out.1.mono hn), fun k hk _ => ?_⟩
    obtain ⟨g, e1, e2⟩ := hr k hk (Nat.zero_le _)
    refine ⟨g, e1, (HB.out.1.cell (p := ⟨g, k * 3 + 2, none⟩) ?_).trans e2⟩
    exact World.block_lt_of_cell? _ _ e2
  have HE := hidC (And.intro hpn (And.intro hcn (And.intro hpa hca)))
  have HNv := hidC ho.nv
  have HF : Hid (∀ W, Spl n0 n1 W1 W → Spl n0 n1 w W) := fun W hW => ⟨(Fr.ofBelow HB.out.1).trans hW.fr⟩
  rw [hsv]
  clear h hr hpn hcn hpa hca hpc hcc hla ho hsv
  go_enter Tryz.func14, Tryz.ntmps14
  go_wp2_with fail
  rw [← hW1, ← hKb]
  clear hW1 hKb
  go_loopw [2] (fun y wr => ∃ i : Nat, i ≤ pn ∧ y = .int .i64 (i : Int) ∧ Hid (Spl n0 n1 W1 wr ∧ SnSh n0 n1 wr s ∧ Rest wr s 0)) (fun y _ => pn - (intOf y).toNat)
  case atStart => exact ⟨0, Nat.zero_le _, rfl, Spl.refl _ _ _, H1.out⟩
  case round =>
    obtain ⟨i, hi, rfl, HI⟩ := hrel
    obtain ⟨k1, k2⟩ := HK.out wr HI.out.1
    by_cases hlt : i < pn
    · have hil : i < s.pins.length := by have := HE.out.1; omega
      obtain ⟨g, hga, hgn, hgc⟩ := HI.out.2.1.ps.at hil
      obtain ⟨⟨u0, d0⟩, f0⟩ := hgc 0 (by omega)
      obtain ⟨⟨u1, d1⟩, f1⟩ := hgc 1 (by omega)
      rw [Nat.add_zero] at d0 f0
      obtain ⟨cur, hty⟩ := HI.out.2.1.ps.typ hil hga
      have HN : Hid (∀ v1 v2, Spl n0 n1 W1 ((wr.setCell ⟨g, i * 2, none⟩ v1).setCell ⟨g, i * 2 + 1, none⟩ v2) ∧ SnSh n0 n1 ((wr.setCell ⟨g, i * 2, none⟩ v1).setCell ⟨g, i * 2 + 1, none⟩ v2) s ∧ Rest ((wr.setCell ⟨g, i * 2, none⟩ v1).setCell ⟨g, i * 2 + 1, none⟩ v2) s 0) := fun v1 v2 => by
        refine ⟨(HI.out.1.set g _ _ hgn).set g _ _ hgn, (HI.out.2.1.set g _ _).set g _ _, ?_⟩
        by_cases hc0 : s.chs.length = 0
        · intro k hk; omega
        · have hne : ∀ gc, s.ca = some ⟨gc, 0, none⟩ → gc ≠ g := fun gc hgc e => by
            obtain ⟨cur', hc'⟩ := HI.out.2.1.cs.typ (i := 0) (by omega) hgc
            rw [e, hty] at hc'
            cases hc'
          exact (HI.out.2.2.set hne).set hne
      rw [← HE.out.2.2.1] at hga
      subst hga
      clear HI hgc hty
      go_wp2
      exact ⟨⟨i + 1, by omega, by go_num, HN.out _ _⟩, by simp [intOf]; omega⟩
    · have H2 := hidC HI.out
      clear HI H1
      generalize wr = W2 at *
      go_wp2_with fail
      clear k1 k2
      go_loopw [3, 4] (fun y _ wr => ∃ i : Nat, i ≤ cn ∧ y = .int .i64 (i : Int) ∧ Hid (Spl n0 n1 W1 wr ∧ SnSh n0 n1 wr s ∧ Rest wr s i)) (fun y _ _ => cn - (intOf y).toNat)
      case atStart => exact ⟨0, Nat.zero_le _, rfl, H2.out⟩
      case round =>
        clear H2
        rename_i hlt0 _ _ _ _
        obtain ⟨i2, hi2, rfl, HI⟩ := hrel
        obtain ⟨k1, k2⟩ := HK.out wr HI.out.1
        by_cases hlt2 : i2 < cn
        · have hil : i2 < s.chs.length := by have := HE.out.2.1; omega
          obtain ⟨gc, hgc, hsl⟩ := HI.out.2.2 i2 hil (Nat.le_refl _)
          have hsn := HNv.out _ (List.getElem_mem hil)
          have hmem := List.getElem_mem hil
          have HSt : Hid (∀ W, SnSh n0 n1 W s → Shp n0 n1 W s.chs[i2].a s.chs[i2].l.length 96 4) := fun W hW => hW.vs _ hmem
          have HI0 : Hid (Spl n0 n1 W1 wr ∧ SnSh n0 n1 wr s ∧ Rest wr s i2) := HI.out
          have HRs : Hid (∀ W, Rest W s i2 → W.cell? ⟨gc, i2 * 3 + 2, none⟩ = some (.slice s.chs[i2].a s.chs[i2].l.length s.chs[i2].c)) := fun W hW => by
            obtain ⟨g', e1, e2⟩ := hW i2 hil (Nat.le_refl _)
            rw [hgc] at e1
            cases e1
            exact e2
          have HGc : Hid (s.ca = some ⟨gc, 0, none⟩) := hgc
          have HIl := hidC hil
          rw [← HE.out.2.2.2] at hgc
          subst hgc
          clear HI hmem
          generalize s.chs[i2].a = sa at *
          generalize s.chs[i2].l.length = sn at *
          generalize s.chs[i2].c = sc at *
          go_wp2_with fail
          clear k1 k2 hsl
          go_loopw [4] (fun y wr => ∃ j : Nat, j ≤ sn ∧ y = .int .i64 (j : Int) ∧ Hid (Spl n0 n1 W1 wr ∧ SnSh n0 n1 wr s ∧ Rest wr s i2)) (fun y _ => sn - (intOf y).toNat)
          case atStart => exact ⟨0, Nat.zero_le _, rfl, HI0.out⟩
          case round =>
            clear HI0
            obtain ⟨j, hj, rfl, HJ⟩ := hrel
            obtain ⟨k1, k2⟩ := HK.out wr HJ.out.1
            have hsl := HRs.out wr HJ.out.2.2
            by_cases hjlt : j < sn
            · obtain ⟨g, hga, hgn, hgcc⟩ := (HSt.out wr HJ.out.2.1).at hjlt
              obtain ⟨⟨u0, d0⟩, f0⟩ := hgcc 0 (by omega)
              obtain ⟨⟨u1, d1⟩, f1⟩ := hgcc 1 (by omega)
              obtain ⟨⟨u2, d2⟩, f2⟩ := hgcc 2 (by omega)
              obtain ⟨⟨u3, d3⟩, f3⟩ := hgcc 3 (by omega)
              rw [Nat.add_zero] at d0 f0
              obtain ⟨cur, hty⟩ := (HSt.out wr HJ.out.2.1).typ hjlt hga
              have HN : Hid (∀ v1 v2 v3 v4, Spl n0 n1 W1 ((((wr.setCell ⟨g, j * 4, none⟩ v1).setCell ⟨g, j * 4 + 1, none⟩ v2).setCell ⟨g, j * 4 + 2, none⟩ v3).setCell ⟨g, j * 4 + 3, none⟩ v4) ∧ SnSh n0 n1 ((((wr.setCell ⟨g, j * 4, none⟩ v1).setCell ⟨g, j * 4 + 1, none⟩ v2).setCell ⟨g, j * 4 + 2, none⟩ v3).setCell ⟨g, j * 4 + 3, none⟩ v4) s ∧ Rest ((((wr.setCell ⟨g, j * 4, none⟩ v1).setCell ⟨g, j * 4 + 1, none⟩ v2).setCell ⟨g, j * 4 + 2, none⟩ v3).setCell ⟨g, j * 4 + 3, none⟩ v4) s i2) := fun v1 v2 v3 v4 => by
                refine ⟨(((HJ.out.1.set g _ _ hgn).set g _ _ hgn).set g _ _ hgn).set g _ _ hgn, (((HJ.out.2.1.set g _ _).set g _ _).set g _ _).set g _ _, ?_⟩
                have hne : ∀ gc', s.ca = some ⟨gc', 0, none⟩ → gc' ≠ g := fun gc' hgc' e => by
                  obtain ⟨cur', hc'⟩ := HJ.out.2.1.cs.typ (i := i2) HIl.out hgc'
                  rw [e, hty] at hc'
                  cases hc'
                exact (((HJ.out.2.2.set hne).set hne).set hne).set hne
              subst hga
              clear HJ hgcc hty
              go_wp2
              exact ⟨⟨j + 1, by omega, by go_num, HN.out _ _ _ _⟩, by simp [intOf]; omega⟩
            · obtain ⟨g, hga, hgn, hgcc⟩ := HJ.out.2.1.cs.at HIl.out
              rw [HGc.out] at hga
              cases hga
              obtain ⟨⟨u0, d0⟩, f0⟩ := hgcc 0 (by omega)
              obtain ⟨⟨u1, d1⟩, f1⟩ := hgcc 1 (by omega)
              have f2 := (hgcc 2 (by omega)).2
              rw [Nat.add_zero] at d0 f0
              obtain ⟨cur, hty⟩ := HJ.out.2.1.cs.typ HIl.out HGc.out
              have HN : Hid (∀ v1 v2 v3, Spl n0 n1 W1 (((wr.setCell ⟨gc, i2 * 3, none⟩ v1).setCell ⟨gc, i2 * 3 + 1, none⟩ v2).setCell ⟨gc, i2 * 3 + 2, none⟩ v3) ∧ SnSh n0 n1 (((wr.setCell ⟨gc, i2 * 3, none⟩ v1).setCell ⟨gc, i2 * 3 + 1, none⟩ v2).setCell ⟨gc, i2 * 3 + 2, none⟩ v3) s ∧ Rest (((wr.setCell ⟨gc, i2 * 3, none⟩ v1).setCell ⟨gc, i2 * 3 + 1, none⟩ v2).setCell ⟨gc, i2 * 3 + 2, none⟩ v3) s (i2 + 1)) := fun v1 v2 v3 => by
                refine ⟨((HJ.out.1.set gc _ _ hgn).set gc _ _ hgn).set gc _ _ hgn, ((HJ.out.2.1.set gc _ _).set gc _ _).set gc _ _, ?_⟩
                have h0 : Rest wr s (i2 + 1) := fun k hk hik => HJ.out.2.2 k hk (by omega)
                have t1 := heap_setCell_same wr gc (i2 * 3) _ _ v1 hty
                have t2 := heap_setCell_same _ gc (i2 * 3 + 1) _ _ v2 t1
                exact ((h0.setC hty (by omega)).setC t1 (by omega)).setC t2 (by omega)
              clear HJ hgcc hty
              go_wp2
              exact ⟨⟨i2 + 1, by omega, by go_num, HN.out _ _ _⟩, by simp [intOf]; omega⟩
        · have HX : Hid (SpPost n0 n1 w (.returned (.tuple #[])) wr) := ⟨⟨_, rfl⟩, HF.out _ HI.out.1⟩
          clear HI
          go_wp2
          go_end0
          exact HX.out
end Go.Proofs.YtbmohlkcmhhpgaaGreat
/-
  made.
-/
namespace Go.Proofs.YtbmohlkcmhhpgaaGreat
open Go.RowKit Go.Sort

theorem snSize_kl (l : List Ch) : snSize l = ((kl l).map (fun p => p.2.length)).sum := by simp [snSize, kl, List.map_map, Function.comp_def]
theorem snV_kl (l : List Ch) : snV l = (kl l).flatMap (fun p => p.2.map (fun v => (p.1, (v.b, v.i)))) := by simp [snV, kl, List.flatMap_map]; rfl
theorem CanR.same {s t : Sn} (hl : t.la = s.la) (hp : t.pins = s.pins) (hk : kl t.chs = kl s.chs) (h : CanR s) : CanR t := by
  refine ⟨by rw [hl]; exact h.1, by rw [hl, hp]; exact h.2.1, fun c hc => ?_, ?_⟩
  · have h1 : (c.k, c.l) ∈ kl t.chs := List.mem_map.2 ⟨c, hc, rfl⟩
    rw [hk] at h1
    obtain ⟨c', hc', e⟩ := List.mem_map.1 h1
    have e2 : c'.l = c.l := congrArg Prod.snd e
    rw [hl, hp, ← e2]
    exact h.2.2.1 c' hc'
  · have e1 : ∀ l : List Ch, l.map Ch.k = (kl l).map Prod.fst := fun l => by simp [kl, List.map_map, Function.comp_def]
    rw [e1, hk, ← e1]
    exact h.2.2.2
theorem restE_same {cap : Int} {s t : Sn} (hl : t.la = s.la) (hp : t.pins = s.pins) (hk : kl t.chs = kl s.chs) : restE cap t = restE cap s := by
  have h1 : CanR t ↔ CanR s := ⟨CanR.same hl.symm hp.symm hk.symm, CanR.same hl hp hk⟩
  have h2 : snSize t.chs = snSize s.chs := by rw [snSize_kl, snSize_kl, hk]
  by_cases hc : cap < 1 ∨ 65536 < cap
  · rw [restE_cap hc, restE_cap hc]
  · have hc' : 1 ≤ cap ∧ cap ≤ 65536 := by omega
    by_cases hR : CanR s
    · by_cases hr : cap < (snSize s.chs : Int)
      · rw [restE_room hc' hR hr, restE_room hc' (h1.2 hR) (by rw [h2]; exact hr)]
      · rw [restE_ok hc' hR hr, restE_ok hc' (h1.2 hR) (by rw [h2]; exact hr)]
    · rw [restE_can hc' hR, restE_can hc' (fun h => hR (h1.1 h))]
theorem SnOK.same {s t : Sn} (hl : t.la = s.la) (hp : t.pins = s.pins) (hk : kl t.chs = kl s.chs) (h : SnOK s) : SnOK t := by
  have hm : ∀ c ∈ t.chs, ∃ c' ∈ s.chs, c'.k = c.k ∧ c'.l = c.l := fun c hc => by
    have h1 : (c.k, c.l) ∈ kl t.chs := List.mem_map.2 ⟨c, hc, rfl⟩
    rw [hk] at h1
    obtain ⟨c', hc', e⟩ := List.mem_map.1 h1
    exact ⟨c', hc', congrArg Prod.fst e, congrArg Prod.snd e⟩
  refine ⟨by rw [hp]; exact h.np, ?_, fun c hc => ?_, by rw [hp]; exact h.ip, fun c hc => ?_, by rw [hl]; exact h.il⟩
  · have h1 := congrArg List.length hk
    simp [kl] at h1
    rw [h1]
    exact h.nc
  · obtain ⟨c', hc', _, e2⟩ := hm c hc
    rw [← e2]
    exact h.nv c' hc'
  · obtain ⟨c', hc', e1, e2⟩ := hm c hc
    rw [← e1, ← e2]
    exact h.ic c' hc'
/-- a Made -/
def mdv (cap : Int) (rs : Bool) (s : Sn) : Value := .agg #[.int .i64 cap, .bool rs, .int .i64 s.la, .slice s.pa s.pins.length s.pc, .slice s.ca s.chs.length s.cc]
/-- what it makes -/
noncomputable def mdE (cap : Int) (rs : Bool) (s : Sn) : Int := by
  classical
  exact if rs then restE cap s else if cap < 1 ∨ 65536 < cap then 91 else 0
def mdL (rs : Bool) (s : Sn) : Int := if rs then s.la else 0
def mdP (rs : Bool) (s : Sn) : List (Int × Int) := if rs then s.pins else []
def mdA (rs : Bool) (s : Sn) : List V4 := if rs then snV s.chs else []
def MadePost (w : World) (cap : Int) (rs : Bool) (s : Sn) (e : Ending) (w' : World) : Prop :=
  ∃ P bv rv, e = .returned (.tuple #[ptr P, .bool true]) ∧ w'.heap[P]? = some (.cells #[bv, rv, .slice none 0 0, .slice none 0 0, .slice none 0 0, .slice none 0 0, .slice none 0 0, .slice none 0 0] 40 (0, 0)) ∧ w.heap.size ≤ P ∧ Below w.heap.size w w' ∧
    ((mdE cap rs s ≠ 0 ∧ bv = .pointer none ∧ rv = .pointer none) ∨
     (mdE cap rs s = 0 ∧ ∃ B Mp Mc Mn nw R av pv, bv = ptr B ∧ rv = ptr R ∧ BA w' B Mp Mc Mn cap (mdL rs s) (mdL rs s) (mdP rs s) (mdA rs s) nw ∧ (∀ k, SB B Mp Mc Mn k → w.heap.size ≤ k) ∧ RB w' w.heap.size R cap (mdL rs s) (mdL rs s) av pv (mdA rs s) (mdP rs s)))
theorem BA.spl {n0 n1 : Nat} {w w' : World} {B Mp Mc Mn : Nat} {cap latest floor : Int} {pins : List (Int × Int)} {all : List V4} {nw : List K} (h : BA w B Mp Mc Mn cap latest floor pins all nw) (hs : Spl n0 n1 w w') (hn : ∀ k, SB B Mp Mc Mn k → n1 ≤ k) : BA w' B Mp Mc Mn cap latest floor pins all nw :=
  h.same (fun k hk => hs.fr.block k (h.lt hk) (fun e => by have := hn k hk; omega))
set_option maxRecDepth 100000 in
set_option maxHeartbeats 4000000 in
theorem made_any (N : Nat) (w : World) (cap : Int) (rs : Bool) (s : Sn) (h : SnAt N w s) (hN : N ≤ w.heap.size) (ho : SnOK s) :
    Calls Tryz.prog 5 #[mdv cap rs s] w fun e w' => MadePost w cap rs s e w' := by
  obtain ⟨pn, hpn⟩ : ∃ pn, pn = s.pins.length := ⟨_, rfl⟩
  obtain ⟨cn, hcn⟩ : ∃ cn, cn = s.chs.length := ⟨_, rfl⟩
  obtain ⟨pa, hpa⟩ : ∃ pa, pa = s.pa := ⟨_, rfl⟩
  obtain ⟨ca, hca⟩ : ∃ ca, ca = s.ca := ⟨_, rfl⟩
  obtain ⟨pc, hpc⟩ : ∃ pc, pc = s.pc := ⟨_, rfl⟩
  obtain ⟨cc, hcc⟩ : ∃ cc, cc = s.cc := ⟨_, rfl⟩
  obtain ⟨la, hla⟩ : ∃ la, la = s.la := ⟨_, rfl⟩
  have hsv : snv s = .agg #[.int .i64 la, .slice pa pn pc, .slice ca cn cc] := by rw [hla, hpa, hpn, hpc, hca, hcn, hcc]; rfl
  have hmv : mdv cap rs s = .agg #[.int .i64 cap, .bool rs, .int .i64 la, .slice pa pn pc, .slice ca cn cc] := by rw [hla, hpa, hpn, hpc, hca, hcn, hcc]; rfl
  obtain ⟨W1, hW1⟩ : ∃ W1, W1 = w.alloc (.cells #[.int .i64 cap, .bool rs, .int .i64 la, .slice pa pn pc, .slice ca cn cc] 27) := ⟨_, rfl⟩
  obtain ⟨Kb, hKb⟩ : ∃ Kb, Kb = w.heap.size := ⟨_, rfl⟩
  have HB : Hid (Below w.heap.size w W1 ∧ W1.heap[Kb]? = some (.cells #[.int .i64 cap, .bool rs, .int .i64 la, .slice pa pn pc, .slice ca cn cc] 27 (0, 0)) ∧ Kb < W1.heap.size) := by
    rw [hW1, hKb]
    exact ⟨(Below.refl _ _).alloc (Nat.le_refl _) _, heap_alloc_new _ _ rfl, by simp⟩
  have HK : Hid (∀ W, Below W1.heap.size W1 W → W.cell? ⟨Kb, 0, none⟩ = some (.int .i64 cap) ∧ W.cell? ⟨Kb, 1, none⟩ = some (.bool rs) ∧ W.cell? ⟨Kb, 2, none⟩ = some (.int .i64 la) ∧ W.cell? ⟨Kb, 3, none⟩ = some (.slice pa pn pc) ∧ W.cell? ⟨Kb, 4, none⟩ = some (.slice ca cn cc)) := fun W hW => by
    have h4 : W.heap[Kb]? = _ := (hW.block _ (blk_lt HB.out.2.1)).trans HB.out.2.1
    refine ⟨?_, ?_, ?_, ?_, ?_⟩ <;> simp [World.cell?, h4]
  have HS : Hid (∀ W, Below W1.heap.size W1 W → SnAt N W s ∧ N ≤ W.heap.size) := fun W hW => by
    have hb := HB.out.1
    have hz := hb.size
    have hz2 := hW.size
    exact ⟨(h.below (hb.mono hN)).below (hW.mono (by omega)), by omega⟩
  have HBw : Hid (∀ W, Below W1.heap.size W1 W → Below w.heap.size w W) := fun W hW => HB.out.1.trans (hW.mono HB.out.1.size)
  have HCp : Hid (Calls Tryz.prog 12 #[.agg #[.int .i64 la, .slice pa pn pc, .slice ca cn cc]] W1 fun e w' => CpPost W1 s e w') := by
    have h1 := copySn_any N W1 s (HS.out W1 (Below.refl _ _)).1 (HS.out W1 (Below.refl _ _)).2 ho
    rw [hsv] at h1
    exact h1
  have HRR : Hid (∀ W, Below W1.heap.size W1 W → Calls Tryz.prog 15 #[.int .i64 cap, .agg #[.int .i64 la, .slice pa pn pc, .slice ca cn cc]] W fun e w' => RRPost W cap s e w') := fun W hW => by
    have h1 := rrestore_any N W cap s (HS.out W hW).1 (HS.out W hW).2 ho
    rw [hsv] at h1
    exact h1
  have HO := hidC ho
  rw [hmv]
  clear h hpn hcn hpa hca hpc hcc hla hsv hmv ho
  go_enter Tryz.func5, Tryz.ntmps5
  go_upto_region 1 with fail
  rw [← hW1, ← hKb]
  clear hW1 hKb
  cases rs with
  | false =>
    obtain ⟨k0, k1, _⟩ := HK.out W1 (Below.refl _ _)
    clear HCp HRR
    go_wp2_with fail
    refine (new_any W1 cap).mono ?_
    rintro e W2 (⟨hcap, rfl, hw2⟩ | ⟨hcap, B, Mp, Mc, Mn, rfl, hba, hsb, hb2⟩)
    · subst hw2
      go_wp2_with fail
      refine (rnew_any W2 cap).mono ?_
      rintro e W3 (⟨_, rfl, hw3⟩ | ⟨hcap2, _⟩)
      · subst hw3
        obtain ⟨W4, hW4⟩ : ∃ W4, W4 = W3.alloc (.cells #[.pointer none, .pointer none, .slice none 0 0, .slice none 0 0, .slice none 0 0, .slice none 0 0, .slice none 0 0, .slice none 0 0] 40) := ⟨_, rfl⟩
        have HX : Hid (MadePost w cap false s (.returned (.tuple #[ptr W3.heap.size, .bool true])) W4) := by
          have hE : mdE cap false s = 91 := by unfold mdE; simp [hcap]
          have hb4 : Below W3.heap.size W3 W4 := by rw [hW4]; exact (Below.refl _ _).alloc (Nat.le_refl _) _
          refine ⟨W3.heap.size, .pointer none, .pointer none, rfl, by rw [hW4]; exact heap_alloc_new _ _ rfl, HB.out.1.size, HBw.out _ hb4, .inl ⟨by rw [hE]; decide, rfl, rfl⟩⟩
        go_wp2_with fail
        rw [← hW4]
        clear hW4
        refine (numB_any W4 91).mono ?_
        rintro e W5 ⟨rfl, hw5⟩
        subst hw5
        go_wp2
        go_ret2
        exact HX.out
      · exact absurd hcap (by omega)
    · obtain ⟨k0, _⟩ := HK.out W2 hb2
      have HA2 := hidC (And.intro hba hsb)
      have HB2 := hidC hb2
      clear hba hsb hb2
      go_wp2_with fail
      refine (rnew_any W2 cap).mono ?_
      rintro e W3 (⟨hcap2, _⟩ | ⟨_, rfl, hrb, hb3, hz3⟩)
      · exact absurd hcap (by omega)
      · clear hz3
        obtain ⟨W4, hW4⟩ : ∃ W4, W4 = W3.alloc (.cells #[ptr B, ptr W2.heap.size, .slice none 0 0, .slice none 0 0, .slice none 0 0, .slice none 0 0, .slice none 0 0, .slice none 0 0] 40) := ⟨_, rfl⟩
        have HX : Hid (MadePost w cap false s (.returned (.tuple #[ptr W3.heap.size, .bool true])) W4) := by
          have hE : mdE cap false s = 0 := by unfold mdE; rw [if_neg (by decide), if_neg (by omega)]
          have hb4 : Below W3.heap.size W3 W4 := by rw [hW4]; exact (Below.refl _ _).alloc (Nat.le_refl _) _
          have hb13 : Below W1.heap.size W1 W3 := HB2.out.trans (hb3.mono HB2.out.size)
          have hb14 : Below W1.heap.size W1 W4 := hb13.trans (hb4.mono hb13.size)
          have hz := HB.out.1.size
          have hz2 := HB2.out.size
          have hr4 := hrb.kept hb4
          refine ⟨W3.heap.size, ptr B, ptr W2.heap.size, rfl, by rw [hW4]; exact heap_alloc_new _ _ rfl, by have := hb13.size; omega, HBw.out _ hb14, .inr ⟨hE, B, Mp, Mc, Mn, [], W2.heap.size, .slice none 0 0, .slice none 0 0, rfl, rfl, (HA2.out.1.kept hb3).kept hb4, fun k hk => Nat.le_trans hz (HA2.out.2 k hk), ⟨hr4.bk, ownsRow_base_a hr4.ra (by omega), ownsRow_base_a hr4.rp (by omega), by omega⟩⟩⟩
        clear hrb hb3
        go_wp2_with fail
        rw [← hW4]
        clear hW4
        refine (numB_any W4 0).mono ?_
        rintro e W5 ⟨rfl, hw5⟩
        subst hw5
        go_wp2
        go_ret2
        exact HX.out
  | true =>
    obtain ⟨k0, k1, k2, k3, k4⟩ := HK.out W1 (Below.refl _ _)
    go_wp2_with fail
    refine HCp.out.mono ?_
    rintro e W2 ⟨s', rfl, hl', hp', hk', hat, hsh, hrs, hb2⟩
    have hz12 := hb2.size
    have hO' := SnOK.same hl' hp' hk' HO.out
    have hEs := restE_same (cap := cap) hl' hp' hk'
    obtain ⟨l', pa', pn', pc', ca', cn', cc', hsv'⟩ : ∃ l' pa' pn' pc' ca' cn' cc', snv s' = .agg #[.int .i64 l', .slice pa' pn' pc', .slice ca' cn' cc'] := ⟨_, _, _, _, _, _, _, rfl⟩
    obtain ⟨W3, hW3⟩ : ∃ W3, W3 = W2.alloc (.cells #[.int .i64 l', .slice pa' pn' pc', .slice ca' cn' cc'] 25) := ⟨_, rfl⟩
    obtain ⟨Sb, hSb⟩ : ∃ Sb, Sb = W2.heap.size := ⟨_, rfl⟩
    have hb3 : Below W2.heap.size W2 W3 := by rw [hW3]; exact (Below.refl _ _).alloc (Nat.le_refl _) _
    have hs3 : W3.heap[Sb]? = some (.cells #[.int .i64 l', .slice pa' pn' pc', .slice ca' cn' cc'] 25 (0, 0)) := by rw [hW3, hSb]; exact heap_alloc_new _ _ rfl
    have hz23 := hb3.size
    have hb13 : Below W1.heap.size W1 W3 := hb2.trans (hb3.mono hz12)
    have HRe : Hid (Calls Tryz.prog 13 #[.int .i64 cap, .agg #[.int .i64 l', .slice pa' pn' pc', .slice ca' cn' cc']] W3 fun e w' => RestPost W3 cap s' e w') := by
      have h1 := restore_any W2.heap.size W3 cap s' (hat.below hb3) hz23 hO'
      rw [hsv'] at h1
      exact h1
    have HSp : Hid (∀ W, Below W3.heap.size W3 W → Calls Tryz.prog 14 #[.agg #[.int .i64 l', .slice pa' pn' pc', .slice ca' cn' cc']] W fun e w' => SpPost W1.heap.size W2.heap.size W e w') := fun W hW => by
      have hb2W : Below W2.heap.size W2 W := hb3.trans (hW.mono hz23)
      have h1 := spoil_any W1.heap.size W2.heap.size W s' (hsh.below hb2W) (fun k hk hik => by
        obtain ⟨g, e1, e2⟩ := hrs k hk hik
        exact ⟨g, e1, (hb2W.cell (p := ⟨g, k * 3 + 2, none⟩) (World.block_lt_of_cell? _ _ e2)).trans e2⟩) (by have := hb2W.size; omega) hO'
      rw [hsv'] at h1
      exact h1
    have HCk : Hid (∀ W, Below W3.heap.size W3 W → W.cell? ⟨Sb, 0, none⟩ = some (.int .i64 l') ∧ W.cell? ⟨Sb, 1, none⟩ = some (.slice pa' pn' pc') ∧ W.cell? ⟨Sb, 2, none⟩ = some (.slice ca' cn' cc')) := fun W hW => by
      have h4 : W.heap[Sb]? = _ := (hW.block _ (blk_lt hs3)).trans hs3
      refine ⟨?_, ?_, ?_⟩ <;> simp [World.cell?, h4]
    have HX3 : Hid (Below W1.heap.size W1 W3 ∧ W1.heap.size ≤ W2.heap.size ∧ W2.heap.size ≤ W3.heap.size ∧ restE cap s' = restE cap s ∧ s'.la = s.la ∧ s'.pins = s.pins ∧ snV s'.chs = snV s.chs) := ⟨hb13, hz12, hz23, hEs, hl', hp', by rw [snV_kl, snV_kl, hk']⟩
    rw [hsv']
    clear hat hsh hrs hb2 hO' hEs hl' hp' hk' hsv' hb3 hs3 hb13 HCp HO hz12 hz23 k0 k1 k2 k3 k4
    go_upto_region 6 with fail
    rw [← hW3, ← hSb]
    clear hW3 hSb
    obtain ⟨k0, _⟩ := HK.out W3 HX3.out.1
    obtain ⟨j0, j1, j2⟩ := HCk.out W3 (Below.refl _ _)
    go_wp2_with fail
    refine HRe.out.mono ?_
    clear k0 j0 j1 j2
    rintro e W4 (⟨hE, rfl, hb4⟩ | ⟨hE, B, Mp, Mc, Mn, nw, rfl, hba, hsb, hb4⟩)
    · rw [HX3.out.2.2.2.1] at hE ⊢
      obtain ⟨E, hEe⟩ : ∃ E, E = restE cap s := ⟨_, rfl⟩
      rw [← hEe] at hE ⊢
      have HEe := hidC hEe
      have HB4 := hidC hb4
      have HSp4 := hidC (HSp.out W4 hb4)
      obtain ⟨j0, j1, j2⟩ := HCk.out W4 hb4
      clear hb4 hEe HRe HSp
      go_wp2_with fail
      refine HSp4.out.mono ?_
      rintro e W5 ⟨⟨xx, rfl⟩, hsp⟩
      have HB5 : Hid (Below W1.heap.size W1 W5) := by
        have h1 := HX3.out.1.trans (HB4.out.mono HX3.out.1.size)
        exact h1.trans (hsp.fr.below h1.size (fun k hk => hk.1))
      clear hsp HSp4 j0 j1 j2
      obtain ⟨k0, _, k2, k3, k4⟩ := HK.out W5 HB5.out
      go_wp2_with fail
      refine (HRR.out W5 HB5.out).mono ?_
      rintro e W6 (⟨_, rfl, hb6⟩ | ⟨hE2, _⟩)
      · rw [← HEe.out]
        obtain ⟨W7, hW7⟩ : ∃ W7, W7 = W6.alloc (.cells #[.pointer none, .pointer none, .slice none 0 0, .slice none 0 0, .slice none 0 0, .slice none 0 0, .slice none 0 0, .slice none 0 0] 40) := ⟨_, rfl⟩
        have HX : Hid (MadePost w cap true s (.returned (.tuple #[ptr W6.heap.size, .bool true])) W7) := by
          have hE9 : mdE cap true s = E := by unfold mdE; rw [if_pos rfl]; exact HEe.out.symm
          have hb7 : Below W6.heap.size W6 W7 := by rw [hW7]; exact (Below.refl _ _).alloc (Nat.le_refl _) _
          have hb16 : Below W1.heap.size W1 W6 := HB5.out.trans (hb6.mono HB5.out.size)
          have hb17 : Below W1.heap.size W1 W7 := hb16.trans (hb7.mono hb16.size)
          refine ⟨W6.heap.size, .pointer none, .pointer none, rfl, by rw [hW7]; exact heap_alloc_new _ _ rfl, by have := HB.out.1.size; have := hb16.size; omega, HBw.out _ hb17, .inl ⟨by rw [hE9]; exact hE, rfl, rfl⟩⟩
        clear hb6 k0 k2 k3 k4
        go_wp2_with fail
        rw [← hW7]
        clear hW7
        refine (numB_any W7 E).mono ?_
        rintro e W8 ⟨rfl, hw8⟩
        subst hw8
        go_wp2
        go_ret2
        exact HX.out
      · exact absurd (HEe.out.trans hE2) hE
    · rw [HX3.out.2.2.2.1] at hE
      have HA4 := hidC hba
      have HSB : Hid (∀ k, SB B Mp Mc Mn k → W3.heap.size ≤ k) := hsb
      have HB4 := hidC hb4
      have HSp4 := hidC (HSp.out W4 hb4)
      obtain ⟨j0, j1, j2⟩ := HCk.out W4 hb4
      have HEe := hidC hE
      clear hb4 HRe HSp hba hsb hE
      go_wp2_with fail
      refine HSp4.out.mono ?_
      rintro e W5 ⟨⟨xx, rfl⟩, hsp⟩
      have HB5 : Hid (Below W1.heap.size W1 W5) := by
        have h1 := HX3.out.1.trans (HB4.out.mono HX3.out.1.size)
        exact h1.trans (hsp.fr.below h1.size (fun k hk => hk.1))
      have HA5 := hidC (HA4.out.spl hsp (fun k hk => by have := HSB.out k hk; have := HX3.out.2.2.1; omega))
      clear hsp HSp4 j0 j1 j2 HA4
      obtain ⟨k0, _, k2, k3, k4⟩ := HK.out W5 HB5.out
      go_wp2_with fail
      refine (HRR.out W5 HB5.out).mono ?_
      rintro e W6 (⟨hE2, _⟩ | ⟨_, R, av, pv, rfl, hrb, hb6⟩)
      · exact absurd HEe.out hE2
      · obtain ⟨W7, hW7⟩ : ∃ W7, W7 = W6.alloc (.cells #[ptr B, ptr R, .slice none 0 0, .slice none 0 0, .slice none 0 0, .slice none 0 0, .slice none 0 0, .slice none 0 0] 40) := ⟨_, rfl⟩
        have HX : Hid (MadePost w cap true s (.returned (.tuple #[ptr W6.heap.size, .bool true])) W7) := by
          have hE9 : mdE cap true s = 0 := by unfold mdE; rw [if_pos rfl]; exact HEe.out
          have hb7 : Below W6.heap.size W6 W7 := by rw [hW7]; exact (Below.refl _ _).alloc (Nat.le_refl _) _
          have hb16 : Below W1.heap.size W1 W6 := HB5.out.trans (hb6.mono HB5.out.size)
          have hb17 : Below W1.heap.size W1 W7 := hb16.trans (hb7.mono hb16.size)
          have hr7 := hrb.kept hb7
          have hz1 := HB.out.1.size
          have hz5 := HB5.out.size
          have hz6 := hb6.size
          have hA7 := (HA5.out.kept hb6).kept hb7
          rw [HX3.out.2.2.2.2.1, HX3.out.2.2.2.2.2.1, HX3.out.2.2.2.2.2.2] at hA7
          refine ⟨W6.heap.size, ptr B, ptr R, rfl, by rw [hW7]; exact heap_alloc_new _ _ rfl, by omega, HBw.out _ hb17, .inr ⟨hE9, B, Mp, Mc, Mn, nw, R, av, pv, rfl, rfl, hA7, fun k hk => ?_, ⟨hr7.bk, ownsRow_base_a hr7.ra (by omega), ownsRow_base_a hr7.rp (by omega), by have := hr7.le; omega⟩⟩⟩
          have h1 := HSB.out k hk
          have h2 := HX3.out.2.1
          have h3 := HX3.out.2.2.1
          omega
        clear hb6 k0 k2 k3 k4 hrb
        go_wp2_with fail
        rw [← hW7]
        clear hW7
        refine (numB_any W7 0).mono ?_
        rintro e W8 ⟨rfl, hw8⟩
        subst hw8
        go_wp2
        go_ret2
        exact HX.out
end Go.Proofs.YtbmohlkcmhhpgaaGreat
/-
  A PAIR: THE PROGRAM'S BOOK AND THE DOCUMENT'S, SIDE BY SIDE, AND WHAT WAS HANDED OUT.
-/
namespace Go.Proofs.YtbmohlkcmhhpgaaGreat
open Go.RowKit Go.Sort

theorem akLK : AKd 36 51 1 24 (.slice none 0 0) := ⟨Tryz.underlying36, by kernel_rfl, rfl, by omega⟩
theorem akLP : AKd 37 78 1 24 (.slice none 0 0) := ⟨Tryz.underlying37, by kernel_rfl, rfl, by omega⟩
theorem akLN : AKd 38 22 1 24 (.slice none 0 0) := ⟨Tryz.underlying38, by kernel_rfl, rfl, by omega⟩
def tpR (i : Nat) : TypeId := if i < 4 then 51 else if i < 6 then 78 else 22
def tpS (i : Nat) : TypeId := if i < 4 then 36 else if i < 6 then 37 else 38
theorem akR (i : Nat) : AKd (tpS i) (tpR i) 1 24 (.slice none 0 0) := by
  unfold tpS tpR
  by_cases h1 : i < 4
  · rw [if_pos h1, if_pos h1]; exact akLK
  · rw [if_neg h1, if_neg h1]
    by_cases h2 : i < 6
    · rw [if_pos h2, if_pos h2]; exact akLP
    · rw [if_neg h2, if_neg h2]; exact akLN
theorem tpR_ne (i : Nat) : tpR i ≠ 74 ∧ tpR i ≠ 101 ∧ tpR i ≠ 92 ∧ tpR i ≠ 88 ∧ tpR i ≠ 40 := by
  unfold tpR
  split
  · decide
  · split <;> decide
structure PJ (n0 P B Mp Mc Mn R : Nat) (cap : Int) (cnt : Nat) (st sd : Bs) (nw : List K) (av pv : Value) (rv : Nat → Value) (wr : World) : Prop where
  ba : BA wr B Mp Mc Mn cap st.la st.fl st.pins st.all nw
  rb : RB wr n0 R cap sd.la sd.fl av pv sd.all sd.pins
  pb : wr.heap[P]? = some (.cells #[ptr B, ptr R, rv 2, rv 3, rv 4, rv 5, rv 6, rv 7] 40 (0, 0))
  rw : ∀ i, 2 ≤ i → i < 8 → ∃ xs, wr.ownsRow n0 (tpR i) 1 (rv i) xs.length xs ∧ xs.length ≤ cnt
  ap : ∀ i j, 2 ≤ i → i < 8 → 2 ≤ j → j < 8 → i ≠ j → ∀ g, (rv i).ownBlock = some g → (rv j).ownBlock ≠ some g
  nP : n0 ≤ P
  sb : ∀ k, SB B Mp Mc Mn k → n0 ≤ k
/-- all blocks of a pair -/
def PBk (P B Mp Mc Mn R : Nat) (av pv : Value) (rv : Nat → Value) (k : Nat) : Prop := k = P ∨ SB B Mp Mc Mn k ∨ SR R av pv k ∨ ∃ i, 2 ≤ i ∧ i < 8 ∧ (rv i).ownBlock = some k
section
variable {n0 P B Mp Mc Mn R : Nat} {cap : Int} {cnt : Nat} {st sd st' sd' : Bs} {nw : List K} {av pv : Value} {rv : Nat → Value} {wr wr' : World}
theorem PJ.lt (h : PJ n0 P B Mp Mc Mn R cap cnt st sd nw av pv rv wr) {k : Nat} (hk : PBk P B Mp Mc Mn R av pv rv k) : k < wr.heap.size := by
  rcases hk with rfl | hk | hk | ⟨i, h1, h2, h3⟩
  · exact blk_lt h.pb
  · exact h.ba.lt hk
  · exact h.rb.ltS hk
  · obtain ⟨xs, hx, _⟩ := h.rw i h1 h2
    exact (World.ownsRow.lt hx k h3).2
theorem PJ.ge (h : PJ n0 P B Mp Mc Mn R cap cnt st sd nw av pv rv wr) {k : Nat} (hk : PBk P B Mp Mc Mn R av pv rv k) : n0 ≤ k := by
  rcases hk with rfl | hk | hk | ⟨i, h1, h2, h3⟩
  · exact h.nP
  · exact h.sb k hk
  · exact h.rb.geS hk
  · obtain ⟨xs, hx, _⟩ := h.rw i h1 h2
    exact (World.ownsRow.lt hx k h3).1
theorem PJ.same (h : PJ n0 P B Mp Mc Mn R cap cnt st sd nw av pv rv wr) (hs : ∀ k, PBk P B Mp Mc Mn R av pv rv k → wr'.heap[k]? = wr.heap[k]?) : PJ n0 P B Mp Mc Mn R cap cnt st sd nw av pv rv wr' :=
  ⟨h.ba.same (fun k hk => hs k (.inr (.inl hk))), h.rb.sameS (fun k hk => hs k (.inr (.inr (.inl hk)))), (hs P (.inl rfl)).trans h.pb, fun i h1 h2 => by
    obtain ⟨xs, hx, hl⟩ := h.rw i h1 h2
    exact ⟨xs, rowSame hx (fun g hg => hs g (.inr (.inr (.inr ⟨i, h1, h2, hg⟩)))), hl⟩, h.ap, h.nP, h.sb⟩
theorem PJ.kept (h : PJ n0 P B Mp Mc Mn R cap cnt st sd nw av pv rv wr) (hb : Below wr.heap.size wr wr') : PJ n0 P B Mp Mc Mn R cap cnt st sd nw av pv rv wr' := h.same (fun k hk => hb.block k (h.lt hk))
theorem PJ.up (h : PJ n0 P B Mp Mc Mn R cap cnt st sd nw av pv rv wr) : PJ n0 P B Mp Mc Mn R cap (cnt + 1) st sd nw av pv rv wr :=
  ⟨h.ba, h.rb, h.pb, fun i h1 h2 => by obtain ⟨xs, hx, hl⟩ := h.rw i h1 h2; exact ⟨xs, hx, by omega⟩, h.ap, h.nP, h.sb⟩
theorem notC' (h : BA wr B Mp Mc Mn cap st.la st.fl st.pins st.all nw) {x : Nat} {cs : Array Value} {T : TypeId} {z : Nat × Nat} (hx : wr.heap[x]? = some (.cells cs T z)) (hT : T ≠ 88) : ¬ SB B Mp Mc Mn x := by
  rintro (rfl | rfl | rfl | rfl)
  · rw [h.bk] at hx
    simp only [Option.some.injEq, Obj.cells.injEq] at hx
    exact hT hx.2.1.symm
  · obtain ⟨ms, c, h1, _⟩ := h.mp.ex
    rw [h1] at hx
    cases hx
  · obtain ⟨ms, c, h1, _⟩ := h.mc.ex
    rw [h1] at hx
    cases hx
  · obtain ⟨ms, c, h1, _⟩ := h.mn.ex
    rw [h1] at hx
    cases hx
/-- the program's book goes on -/
theorem PJ.book (h : PJ n0 P B Mp Mc Mn R cap cnt st sd nw av pv rv wr) {nw' : List K} (hb : BA wr' B Mp Mc Mn cap st'.la st'.fl st'.pins st'.all nw') (hf : Fr (SB B Mp Mc Mn) wr wr') : PJ n0 P B Mp Mc Mn R cap cnt st' sd nw' av pv rv wr' := by
  have hP : wr'.heap[P]? = _ := (hf.block P (blk_lt h.pb) (notC' h.ba h.pb (by decide))).trans h.pb
  refine ⟨hb, h.rb.sameS (fun k hk => ?_), hP, fun i h1 h2 => ?_, h.ap, h.nP, h.sb⟩
  · obtain ⟨cur, T, hc, hT⟩ := h.rb.kind hk
    exact hf.block k (blk_lt hc) (notC' h.ba hc (by rcases hT with rfl | rfl | rfl <;> decide))
  · obtain ⟨xs, hx, hl⟩ := h.rw i h1 h2
    refine ⟨xs, rowSame hx (fun g hg => ?_), hl⟩
    obtain ⟨cur, hc⟩ := rowBlock hx hg
    exact hf.block g (blk_lt hc) (notC' h.ba hc (tpR_ne i).2.2.2.1)
theorem RB.notS {base : Nat} {room last low : Int} {all : List V4} {pins : List (Int × Int)} (h : RB wr base R room last low av pv all pins) {x : Nat} {o : Obj} (hx : wr.heap[x]? = some o) (ho : ∀ cur T, o = .cells cur T (0, 0) → T ≠ 74 ∧ T ≠ 101 ∧ T ≠ 92) : ¬ SR R av pv x := fun hs => by
  obtain ⟨cur, T, hc, hT⟩ := h.kind hs
  rw [hx] at hc
  have := ho cur T (Option.some.inj hc)
  rcases hT with rfl | rfl | rfl
  · exact this.1 rfl
  · exact this.2.1 rfl
  · exact this.2.2 rfl
/-- the document's book goes on -/
theorem PJ.doc (h : PJ n0 P B Mp Mc Mn R cap cnt st sd nw av pv rv wr) (hr : RPost wr n0 R cap av pv sd' wr') : ∃ av' pv', PJ n0 P B Mp Mc Mn R cap cnt st sd' nw av' pv' rv wr' := by
  obtain ⟨av', pv', hrb, hf, hn⟩ := hr
  refine ⟨av', pv', h.ba.same (fun k hk => ?_), hrb, ?_, fun i h1 h2 => ?_, h.ap, h.nP, h.sb⟩
  · refine hf.block k (h.ba.lt hk) ?_
    rcases hk with rfl | rfl | rfl | rfl
    · exact h.rb.notS h.ba.bk (fun cur T e => by cases e; decide)
    · obtain ⟨ms, c, h1, _⟩ := h.ba.mp.ex
      exact h.rb.notS h1 (fun cur T e => by cases e)
    · obtain ⟨ms, c, h1, _⟩ := h.ba.mc.ex
      exact h.rb.notS h1 (fun cur T e => by cases e)
    · obtain ⟨ms, c, h1, _⟩ := h.ba.mn.ex
      exact h.rb.notS h1 (fun cur T e => by cases e)
  · exact (hf.block P (blk_lt h.pb) (h.rb.notS h.pb (fun cur T e => by cases e; decide))).trans h.pb
  · obtain ⟨xs, hx, hl⟩ := h.rw i h1 h2
    refine ⟨xs, rowSame hx (fun g hg => ?_), hl⟩
    obtain ⟨cur, hc⟩ := rowBlock hx hg
    exact hf.block g (blk_lt hc) (h.rb.notS hc (fun cur T e => by cases e; exact ⟨(tpR_ne i).1, (tpR_ne i).2.1, (tpR_ne i).2.2.1⟩))
theorem PJ.cells (h : PJ n0 P B Mp Mc Mn R cap cnt st sd nw av pv rv wr) : wr.cell? ⟨P, 0, none⟩ = some (ptr B) ∧ wr.cell? ⟨P, 1, none⟩ = some (ptr R) ∧ wr.cell? ⟨P, 2, none⟩ = some (rv 2) ∧ wr.cell? ⟨P, 3, none⟩ = some (rv 3) ∧ wr.cell? ⟨P, 4, none⟩ = some (rv 4) ∧ wr.cell? ⟨P, 5, none⟩ = some (rv 5) ∧ wr.cell? ⟨P, 6, none⟩ = some (rv 6) ∧ wr.cell? ⟨P, 7, none⟩ = some (rv 7) := by
  refine ⟨?_, ?_, ?_, ?_, ?_, ?_, ?_, ?_⟩ <;> simp [World.cell?, h.pb]
theorem PJ.frozen (h : PJ n0 P B Mp Mc Mn R cap cnt st sd nw av pv rv wr) (i : Nat) : wr.frozen? ⟨P, i, none⟩ = false := frozen_of_row _ _ _ _ _ h.pb
/-- one list more is noted -/
theorem PJ.push (h : PJ n0 P B Mp Mc Mn R cap cnt st sd nw av pv rv wr) (i : Nat) (hi : 2 ≤ i) (hi8 : i < 8) (v : Value) (hv : v.oneCell' = true) (hc : cnt ≤ 1000000) (ty : TypeId) (hn : n0 ≤ wr.heap.size) :
    ∃ v' w', (Builtin.append_ #[tpS i, tpS i] ty #[rv i, .slice (some ⟨wr.heap.size, 0, none⟩) 1 1]).run Tryz.prog (wr.alloc (.cells #[v] (tpR i))) = .ok v' w' ∧ (∃ a m c, v' = .slice a m c) ∧ (∀ j, 2 ≤ j → j < 8 → w'.cell? ⟨P, j, none⟩ = some (rv j)) ∧ w'.frozen? ⟨P, i, none⟩ = false ∧ (∃ rv', (∀ j, j ≠ i → rv' j = rv j) ∧ PJ n0 P B Mp Mc Mn R cap (cnt + 1) st sd nw av pv rv' (w'.setCell ⟨P, i, none⟩ v')) ∧ Fr (fun k => n0 ≤ k) wr (w'.setCell ⟨P, i, none⟩ v') ∧ ∀ (k : Nat) (cs : Array Value) (T : TypeId) (z : Nat × Nat), wr.heap[k]? = some (.cells cs T z) → T ≠ tpR i → T ≠ 40 → (w'.setCell ⟨P, i, none⟩ v').heap[k]? = wr.heap[k]? := by
  obtain ⟨xs, hx, hl⟩ := h.rw i hi hi8
  obtain ⟨v', w', z1, z2, z3, z4, z5⟩ := (akR i).app1 wr ty n0 (rv i) xs.length xs [v] hx rfl (by intro u hu; simp at hu; rw [hu]; exact hv) (by omega) (by omega) hn
  have hb1 : Below wr.heap.size wr (wr.alloc (.cells #[v] (tpR i))) := (Below.refl _ _).alloc (Nat.le_refl _) _
  have hsame : ∀ k, k < wr.heap.size → (rv i).ownBlock ≠ some k → w'.heap[k]? = wr.heap[k]? := fun k hk hne => (z4.block k (Nat.lt_of_lt_of_le hk hb1.size) (fun e => hne e.symm)).trans (hb1.block k hk)
  have hPne : (rv i).ownBlock ≠ some P := fun e => by
    obtain ⟨cur, hc'⟩ := rowBlock hx e
    rw [h.pb] at hc'
    simp only [Option.some.injEq, Obj.cells.injEq] at hc'
    exact (tpR_ne i).2.2.2.2 hc'.2.1.symm
  have hP' : w'.heap[P]? = _ := (hsame P (blk_lt h.pb) hPne).trans h.pb
  have hset : ∀ k, k ≠ P → (w'.setCell ⟨P, i, none⟩ v').heap[k]? = w'.heap[k]? := fun k hk => heap_setCell_other _ _ _ _ (fun e => hk e)
  have hkeep : ∀ k, k < wr.heap.size → (rv i).ownBlock ≠ some k → k ≠ P → (w'.setCell ⟨P, i, none⟩ v').heap[k]? = wr.heap[k]? := fun k h1 h2 h3 => (hset k h3).trans (hsame k h1 h2)
  have hnoB : ∀ {k : Nat} {cs : Array Value} {T : TypeId} {z : Nat × Nat}, wr.heap[k]? = some (.cells cs T z) → T ≠ tpR i → (rv i).ownBlock ≠ some k := fun {k cs T z} hk hT e => by
    obtain ⟨cur, hc'⟩ := rowBlock hx e
    rw [hk] at hc'
    simp only [Option.some.injEq, Obj.cells.injEq] at hc'
    exact hT hc'.2.1
  have hv'P : v'.ownBlock ≠ some P := fun e => by
    rcases z5 with h1 | h1
    · exact hPne (by rw [← h1]; exact e)
    · rw [e] at h1
      have := blk_lt h.pb
      cases h1
      omega
  refine ⟨v', w', z1, z2, fun j hj hj8 => ?_, frozen_of_row _ _ _ _ _ hP', ⟨fun j => if j = i then v' else rv j, fun j hj => if_neg hj, ?_⟩, ?_, fun k cs T z hk h1 h2 => hkeep k (blk_lt hk) (hnoB hk h1) (fun e => by rw [e, h.pb] at hk; simp only [Option.some.injEq, Obj.cells.injEq] at hk; exact h2 hk.2.1.symm)⟩
  · have h1 : j = 2 ∨ j = 3 ∨ j = 4 ∨ j = 5 ∨ j = 6 ∨ j = 7 := by omega
    rcases h1 with rfl | rfl | rfl | rfl | rfl | rfl <;> simp [World.cell?, hP']
  · refine ⟨h.ba.same (fun k hk => ?_), h.rb.sameS (fun k hk => ?_), ?_, fun j h1 h2 => ?_, fun a b a1 a2 b1 b2 hab g hg => ?_, h.nP, h.sb⟩
    · refine hkeep k (h.ba.lt hk) (fun e => ?_) (fun e => ?_)
      · obtain ⟨cur, hc'⟩ := rowBlock hx e
        exact notC' h.ba hc' (tpR_ne i).2.2.2.1 hk
      · exact notC' h.ba h.pb (by decide) (e ▸ hk)
    · refine hkeep k (h.rb.ltS hk) (fun e => ?_) (fun e => ?_)
      · obtain ⟨cur, hc'⟩ := rowBlock hx e
        exact h.rb.notS hc' (fun cur T e => by cases e; exact ⟨(tpR_ne i).1, (tpR_ne i).2.1, (tpR_ne i).2.2.1⟩) hk
      · exact h.rb.notS h.pb (fun cur T e => by cases e; decide) (e ▸ hk)
    · rw [heap_setCell_same w' P i _ _ v' hP']
      have h1 : i = 2 ∨ i = 3 ∨ i = 4 ∨ i = 5 ∨ i = 6 ∨ i = 7 := by omega
      rcases h1 with rfl | rfl | rfl | rfl | rfl | rfl <;> simp
    · by_cases hji : j = i
      · subst hji
        simp only [if_pos]
        refine ⟨xs ++ [v], ?_, by simp; omega⟩
        rw [List.length_append]
        refine rowSame z3 (fun g hg => hset g (fun e => hv'P (by rw [hg, e])))
      · simp only [if_neg hji]
        obtain ⟨ys, hy, hyl⟩ := h.rw j h1 h2
        refine ⟨ys, rowSame hy (fun g hg => hkeep g (World.ownsRow.lt hy g hg).2 (fun e => ?_) (fun e => ?_)), by omega⟩
        · exact h.ap i j hi hi8 h1 h2 (fun e => hji e.symm) g e hg
        · obtain ⟨cur, hc'⟩ := rowBlock hy hg
          rw [e, h.pb] at hc'
          simp only [Option.some.injEq, Obj.cells.injEq] at hc'
          exact (tpR_ne j).2.2.2.2 hc'.2.1.symm
    · by_cases hai : a = i
      · have hbi : b ≠ i := fun e => hab (hai.trans e.symm)
        simp only [if_pos hai] at hg
        simp only [if_neg hbi]
        intro hgb
        obtain ⟨ys, hy, _⟩ := h.rw b b1 b2
        rcases z5 with e1 | e1
        · exact h.ap i b hi hi8 b1 b2 (fun e => hbi e.symm) g (by rw [← e1]; exact hg) hgb
        · have := (World.ownsRow.lt hy g hgb).2
          rw [hg] at e1
          cases e1
          omega
      · simp only [if_neg hai] at hg
        by_cases hbi : b = i
        · simp only [if_pos hbi]
          intro hgb
          obtain ⟨ys, hy, _⟩ := h.rw a a1 a2
          rcases z5 with e1 | e1
          · exact h.ap a i a1 a2 hi hi8 hai g hg (by rw [← e1]; exact hgb)
          · have := (World.ownsRow.lt hy g hg).2
            rw [hgb] at e1
            cases e1
            omega
        · simp only [if_neg hbi]
          exact h.ap a b a1 a2 b1 b2 hab g hg
  · refine ⟨z4.os, z4.tape, z4.output, ?_, fun k hk hS => ?_⟩
    · have := hb1.size
      have := z4.size
      simp
      omega
    · refine hkeep k hk (fun e => hS ((World.ownsRow.lt hx k e).1)) (fun e => hS (by rw [e]; exact h.nP))
end
end Go.Proofs.YtbmohlkcmhhpgaaGreat
