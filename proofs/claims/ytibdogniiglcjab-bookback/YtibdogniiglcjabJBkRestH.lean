import Derived.Test.YtibdogniiglcjabBkFit3
import Derived.Test.YtibdogniiglcjabBkCount
import Derived.BigRegion
/-
  Restore: THE MATHEMATICS.
-/
namespace Go.Proofs.Ytibdogniiglcjab
open Go.RowKit Go.Sort

section
variable {w : World} {B Mp Mc Mn : Nat} {cap latest floor : Int} {pins : List (Int × Int)} {all : List V4} {nw : List K}
/-- one pin more -/
theorem BA.addPin (h : BA w B Mp Mc Mn cap latest floor pins all nw) (p : Int × Int) (hp : 0 ≤ p.1 ∧ p.1 ≤ latest ∧ 1 ≤ p.2 ∧ p.2 ≤ 1099511627776) (hn : ∀ q ∈ pins, q.1 ≠ p.1) (hl : pins.length + 1 ≤ 32) :
    ∃ W, (Instr.mapUpdate 77 (.map (some Mp)) (.int .i64 p.1) (.int .i64 p.2)).run Try.prog w = .ok () W ∧ BA W B Mp Mc Mn cap latest floor (pins ++ [p]) all nw ∧ w.grownBy W (some Mp) := by
  have hla := h.la
  obtain ⟨W, h1, h2, h3⟩ := kdP.putNew h.mp (a := p.1) (by unfold In64; omega) (fun e he e' => by
    obtain ⟨q, hq, rfl⟩ := List.mem_map.1 he
    exact hn q hq e') (ei p.2)
  have hs : ∀ k, k < w.heap.size → k ≠ Mp → W.heap[k]? = w.heap[k]? := fun k hk hne => h3.block k hk (fun e => by cases e; exact hne rfl)
  refine ⟨W, h1, ⟨(hs B (blk_lt h.bk) h.Bne.1).trans h.bk, by simpa using h2, h.mc.same (hs _ h.mc.lt h.ne.1.symm), h.mn.same (hs _ h.mn.lt h.ne.2.1.symm), h.nwa, h.ne, h.cp, h.la, h.ln, h.pl, ⟨by simp; omega, fun q hq => ?_⟩, h.rs, h.ik⟩, h3⟩
  rcases List.mem_append.1 hq with hq | hq
  · exact h.ps.2 q hq
  · simp at hq; subst hq; exact hp
/-- the numbers are told -/
theorem BA.setNums (h : BA w B Mp Mc Mn cap 0 0 [] [] []) (la : Int) (hla : 0 ≤ la ∧ la ≤ 1099511627776) : BA ((w.setCell ⟨B, 1, none⟩ (.int .i64 la)).setCell ⟨B, 2, none⟩ (.int .i64 la)) B Mp Mc Mn cap la la [] [] [] := by
  have hne := h.Bne
  have hs : ∀ k, k ≠ B → ((w.setCell ⟨B, 1, none⟩ (.int .i64 la)).setCell ⟨B, 2, none⟩ (.int .i64 la)).heap[k]? = w.heap[k]? := fun k hk => (heap_setCell_other _ _ _ _ (fun e => hk e)).trans (heap_setCell_other _ _ _ _ (fun e => hk e))
  have h1 := heap_setCell_same w B 1 _ _ (.int .i64 la) h.bk
  have h2 := heap_setCell_same _ B 2 _ _ (.int .i64 la) h1
  refine ⟨h2, h.mp.same (hs _ hne.1.symm), h.mc.same (hs _ hne.2.1.symm), h.mn.same (hs _ hne.2.2.symm), h.nwa, h.ne, h.cp, by omega, h.ln, by simp, ⟨by simp, by simp⟩, by simp, by simp⟩
end
theorem pins_new {la : Int} {l : List (Int × Int)} (h : PnOK la l) {i : Nat} (hi : i < l.length) : (0 ≤ l[i].1 ∧ l[i].1 ≤ la ∧ 1 ≤ l[i].2 ∧ l[i].2 ≤ 1099511627776) ∧ (∀ q ∈ l.take i, q.1 ≠ l[i].1) ∧ (l.take i).length + 1 ≤ 32 ∧ l.take (i + 1) = l.take i ++ [l[i]] := by
  have hr := h.rise
  have h1 := h.2 i hi
  have hlt : ∀ j (hj : j < i), l[j].1 < l[i].1 := fun j hj => by
    have h2 := List.pairwise_iff_getElem.1 hr j i (by simp; omega) (by simpa using hi) hj
    simpa using h2
  refine ⟨⟨?_, h1.2⟩, fun q hq => ?_, ?_, List.take_succ_eq_append_getElem hi⟩
  · cases i with
    | zero => exact h1.1
    | succ n =>
      have h0 := (h.2 0 (by omega)).1
      have h2 := hlt 0 (by omega)
      simp only [loP] at h0
      omega
  · obtain ⟨j, hj, rfl⟩ := List.getElem_of_mem hq
    simp only [List.length_take] at hj
    simp only [List.getElem_take]
    have := hlt j (by omega)
    omega
  · have := h.1
    rw [List.length_take]
    omega
theorem snV_mem {l : List Ch} {u : V4} (h : u ∈ snV l) : ∃ c ∈ l, u.1 = c.k := by
  unfold snV at h
  rw [List.mem_flatMap] at h
  obtain ⟨c, hc, hu⟩ := h
  unfold chV at hu
  obtain ⟨v, _, rfl⟩ := List.mem_map.1 hu
  exact ⟨c, hc, rfl⟩
theorem snSize_take_le {l : List Ch} {i : Nat} (h : i < l.length) : snSize (l.take i) + l[i].l.length ≤ snSize l := by
  have e : l = l.take (i + 1) ++ l.drop (i + 1) := (List.take_append_drop _ _).symm
  have h1 : snSize l = snSize (l.take (i + 1)) + snSize (l.drop (i + 1)) := by
    unfold snSize
    rw [← List.sum_append_nat, ← List.map_append, List.take_append_drop]
  rw [h1, snSize_take h]
  omega
/-- the next version of a snapshot can be counted -/
theorem restStep {s : Sn} (h : CanR s) {i : Nat} (hi : i < s.chs.length) {j : Nat} (hj : j < s.chs[i].l.length) :
    isKey s.chs[i].k = true ∧ PlOK s.la (s.chs[i].k, (s.chs[i].l[j].b, s.chs[i].l[j].i)) ∧ (∀ u ∈ snV (s.chs.take i) ++ (chV s.chs[i]).take j, u.1 = s.chs[i].k → later (s.chs[i].k, (s.chs[i].l[j].b, s.chs[i].l[j].i)) u) ∧ (snV (s.chs.take i) ++ (chV s.chs[i]).take j).length + 1 ≤ snSize s.chs ∧ (chV s.chs[i]).take (j + 1) = (chV s.chs[i]).take j ++ [(s.chs[i].k, (s.chs[i].l[j].b, s.chs[i].l[j].i))] := by
  have hc := h.2.2.1 _ (List.getElem_mem hi)
  have hr := h.2.2.2
  have h1 := (hc.2 j hj).1
  have hjc : j < (chV s.chs[i]).length := by simpa [chV] using hj
  have he : (chV s.chs[i])[j] = (s.chs[i].k, (s.chs[i].l[j].b, s.chs[i].l[j].i)) := by simp [chV]
  refine ⟨hr.1 _ (List.mem_map.2 ⟨_, List.getElem_mem hi, rfl⟩), ⟨ChOK.one hc.2 j hj, h1.2.1, h1.2.2.1, h1.2.2.2⟩, fun u hu hk => ?_, ?_, by rw [List.take_succ_eq_append_getElem hjc, he]⟩
  · rcases List.mem_append.1 hu with hu | hu
    · exfalso
      obtain ⟨c, hcm, he2⟩ := snV_mem hu
      obtain ⟨m, hm, rfl⟩ := List.getElem_of_mem hcm
      simp only [List.length_take] at hm
      simp only [List.getElem_take] at he2
      have h2 := List.pairwise_iff_getElem.1 hr.2 m i (by simp; omega) (by simpa using hi) (by omega)
      simp only [List.getElem_map] at h2
      rw [← he2, hk, lt_irrefl] at h2
      cases h2
    · obtain ⟨m, hm, rfl⟩ := List.getElem_of_mem hu
      simp only [List.length_take] at hm
      have hml : m < s.chs[i].l.length := by omega
      have e2 : ((chV s.chs[i]).take j)[m]'(by simp only [List.length_take]; omega) = (s.chs[i].k, (s.chs[i].l[m].b, s.chs[i].l[m].i)) := by simp [chV, List.getElem_take]
      rw [e2]
      obtain ⟨n, rfl⟩ : ∃ n, j = m + n + 1 := ⟨j - m - 1, by omega⟩
      have := ChOK.lt hc.2 n m hj
      exact .inl this
  · have h3 := snSize_take_le hi
    rw [List.length_append, snV_length, List.length_take]
    omega
end Go.Proofs.Ytibdogniiglcjab
/-
  Restore.
-/
namespace Go.Proofs.Ytibdogniiglcjab
open Go.RowKit Go.Sort

def RestPost (w : World) (cap : Int) (s : Sn) (e : Ending) (w' : World) : Prop :=
  (restE cap s ≠ 0 ∧ e = .returned (.tuple #[.pointer none, .int .i64 (restE cap s)]) ∧ Below w.heap.size w w') ∨
  (restE cap s = 0 ∧ ∃ B Mp Mc Mn nw, e = .returned (.tuple #[ptr B, .int .i64 0]) ∧ BA w' B Mp Mc Mn cap s.la s.la s.pins (snV s.chs) nw ∧ (∀ k, SB B Mp Mc Mn k → w.heap.size ≤ k) ∧ Below w.heap.size w w')
theorem restE_cap {cap : Int} {s : Sn} (h : cap < 1 ∨ 65536 < cap) : restE cap s = 91 := by unfold restE; rw [if_pos h]
theorem restE_can {cap : Int} {s : Sn} (h : 1 ≤ cap ∧ cap ≤ 65536) (hc : ¬ CanR s) : restE cap s = 105 := by unfold restE; rw [if_neg (by omega), if_pos hc]
theorem restE_room {cap : Int} {s : Sn} (h : 1 ≤ cap ∧ cap ≤ 65536) (hc : CanR s) (hr : cap < (snSize s.chs : Int)) : restE cap s = 100 := by unfold restE; rw [if_neg (by omega), if_neg (by simpa using hc), if_pos hr]
theorem restE_ok {cap : Int} {s : Sn} (h : 1 ≤ cap ∧ cap ≤ 65536) (hc : CanR s) (hr : ¬ cap < (snSize s.chs : Int)) : restE cap s = 0 := by unfold restE; rw [if_neg (by omega), if_neg (by simpa using hc), if_neg hr]
set_option maxRecDepth 100000 in
set_option maxHeartbeats 4000000 in
theorem restore_any (N : Nat) (w : World) (cap : Int) (s : Sn) (h : SnAt N w s) (hN : N ≤ w.heap.size) (ho : SnOK s) :
    Calls Try.prog 27 #[.int .i64 cap, snv s] w fun e w' => RestPost w cap s e w' := by
  obtain ⟨pn, hpn⟩ : ∃ pn, pn = s.pins.length := ⟨_, rfl⟩
  obtain ⟨cn, hcn⟩ : ∃ cn, cn = s.chs.length := ⟨_, rfl⟩
  obtain ⟨pa, hpa⟩ : ∃ pa, pa = s.pa := ⟨_, rfl⟩
  obtain ⟨ca, hca⟩ : ∃ ca, ca = s.ca := ⟨_, rfl⟩
  obtain ⟨pc, hpc⟩ : ∃ pc, pc = s.pc := ⟨_, rfl⟩
  obtain ⟨cc, hcc⟩ : ∃ cc, cc = s.cc := ⟨_, rfl⟩
  obtain ⟨la, hla⟩ : ∃ la, la = s.la := ⟨_, rfl⟩
  have hnp := ho.np
  have hnc := ho.nc
  have hsv : snv s = .agg #[.int .i64 la, .slice pa pn pc, .slice ca cn cc] := by rw [hla, hpa, hpn, hpc, hca, hcn, hcc]; rfl
  rw [← hpn] at hnp
  rw [← hcn] at hnc
  obtain ⟨W1, hW1⟩ : ∃ W1, W1 = w.alloc (.cells #[.int .i64 la, .slice pa pn pc, .slice ca cn cc] 27) := ⟨_, rfl⟩
  obtain ⟨Kb, hKb⟩ : ∃ Kb, Kb = w.heap.size := ⟨_, rfl⟩
  have HB : Hid (Below w.heap.size w W1 ∧ W1.heap[Kb]? = some (.cells #[.int .i64 la, .slice pa pn pc, .slice ca cn cc] 27 (0, 0))) := by
    rw [hW1, hKb]
    exact ⟨(Below.refl _ _).alloc (Nat.le_refl _) _, heap_alloc_new _ _ rfl⟩
  have HS : Hid (∀ W, Below W1.heap.size W1 W → SnAt N W s) := fun W hW => by
    have hb := HB.out.1
    exact (h.below (hb.mono hN)).below (hW.mono (by have := hb.size; omega))
  have HK : Hid (∀ W, Below W1.heap.size W1 W → W.cell? ⟨Kb, 0, none⟩ = some (.int .i64 la) ∧ W.cell? ⟨Kb, 1, none⟩ = some (.slice pa pn pc) ∧ W.cell? ⟨Kb, 2, none⟩ = some (.slice ca cn cc)) := fun W hW => by
    have h4 : W.heap[Kb]? = _ := (hW.block _ (blk_lt HB.out.2)).trans HB.out.2
    refine ⟨?_, ?_, ?_⟩ <;> simp [World.cell?, h4]
  have HCan : Hid (∀ W, Below W1.heap.size W1 W → Calls Try.prog 48 #[.agg #[.int .i64 la, .slice pa pn pc, .slice ca cn cc]] W fun e w' => FitPost W (CanR s) e w') := fun W hW => by
    have h1 := canRestore_any N W s (HS.out W hW) (by have := hW.size; have := HB.out.1.size; omega) ho
    rw [hsv] at h1
    exact h1
  have HSz : Hid (∀ W, Below W1.heap.size W1 W → Calls Try.prog 49 #[.agg #[.int .i64 la, .slice pa pn pc, .slice ca cn cc]] W fun e w' => SizePost W (snSize s.chs : Int) e w') := fun W hW => by
    have h1 := size_any N W s (HS.out W hW) (by have := hW.size; have := HB.out.1.size; omega) ho
    rw [hsv] at h1
    exact h1
  have HO := hidC ho
  have HE := hidC (And.intro hpn (And.intro hcn (And.intro hpa (And.intro hca hla))))
  rw [hsv]
  clear h hpn hcn hpa hca hpc hcc hla ho hsv
  go_enter Try.func27, Try.ntmps27
  go_wp2_with fail
  rw [← hW1, ← hKb]
  clear hW1 hKb
  refine (new_any W1 cap).mono ?_
  rintro e W2 (⟨hcap, rfl, hw2⟩ | ⟨hcap, B, Mp, Mc, Mn, rfl, hba, hsb, hb2⟩)
  · subst hw2
    have HX : Hid (RestPost w cap s (.returned (.tuple #[.pointer none, .int .i64 91])) W2) := .inl ⟨by rw [restE_cap hcap]; decide, by rw [restE_cap hcap], HB.out.1⟩
    go_wp2
    go_ret2
    exact HX.out
  have HA2 := hidC (And.intro hba hsb)
  have HB2 := hidC hb2
  obtain ⟨k0, k1, k2⟩ := HK.out W2 hb2
  clear hba hsb hb2
  go_wp2_with fail
  refine (HCan.out W2 HB2.out).mono ?_
  rintro e W3 ⟨r, rfl, hr, hb3⟩
  have HB3 : Hid (Below W1.heap.size W1 W3) := HB2.out.trans (hb3.mono HB2.out.size)
  have HA3 : Hid (BA W3 B Mp Mc Mn cap 0 0 [] [] []) := HA2.out.1.kept hb3
  have HBw : Hid (∀ W, Below W1.heap.size W1 W → Below w.heap.size w W) := fun W hW => HB.out.1.trans (hW.mono HB.out.1.size)
  clear k0 k1 k2 hb3
  cases r with
  | false =>
    have hnc : ¬ CanR s := fun h => by have := hr.2 h; cases this
    have HX : Hid (RestPost w cap s (.returned (.tuple #[.pointer none, .int .i64 105])) W3) := .inl ⟨by rw [restE_can hcap hnc]; decide, by rw [restE_can hcap hnc], HBw.out _ HB3.out⟩
    clear hr hnc
    go_wp2
    go_ret2
    exact HX.out
  | true =>
    have HCR := hidC (hr.1 rfl)
    clear hr
    obtain ⟨k0, k1, k2⟩ := HK.out W3 HB3.out
    go_wp2_with fail
    refine (HSz.out W3 HB3.out).mono ?_
    rintro e W4 ⟨rfl, hb4⟩
    have HB4 : Hid (Below W1.heap.size W1 W4) := HB3.out.trans (hb4.mono HB3.out.size)
    have HA4 : Hid (BA W4 B Mp Mc Mn cap 0 0 [] [] []) := HA3.out.kept hb4
    clear k0 k1 k2 hb4
    obtain ⟨sz, hsz⟩ : ∃ sz : Int, sz = (snSize s.chs : Int) := ⟨_, rfl⟩
    rw [← hsz]
    have HSze := hidC hsz
    have HSB := hidC HA2.out.2
    clear hsz HCan HSz HA2 HB2 HA3 HB3
    by_cases hrm : cap < sz
    · have hrb : decide (cap < sz) = true := decide_eq_true hrm
      have HX : Hid (RestPost w cap s (.returned (.tuple #[.pointer none, .int .i64 100])) W4) := by
        have h1 := restE_room hcap HCR.out (by rw [← HSze.out]; exact hrm)
        exact .inl ⟨by rw [h1]; decide, by rw [h1], HBw.out _ HB4.out⟩
      go_wp2
      go_ret2
      exact HX.out
    have hrb : decide (cap < sz) = false := decide_eq_false hrm
    have HE0 : Hid (restE cap s = 0) := restE_ok hcap HCR.out (by rw [← HSze.out]; exact hrm)
    obtain ⟨k0, k1, k2⟩ := HK.out W4 HB4.out
    obtain ⟨_, b1, b2, _⟩ := HA4.out.cells
    have f1 := HA4.out.frozen 1
    have f2 := HA4.out.frozen 2
    have k0d : W4.drew.cell? ⟨Kb, 0, none⟩ = some (.int .i64 la) := k0
    have b1d : W4.drew.cell? ⟨B, 1, none⟩ = some (.int .i64 0) := b1
    have b2d : W4.drew.cell? ⟨B, 2, none⟩ = some (.int .i64 0) := b2
    have f1d : W4.drew.frozen? ⟨B, 1, none⟩ = false := f1
    have f2d : W4.drew.frozen? ⟨B, 2, none⟩ = false := f2
    have HNe : Hid (Kb ≠ B) := fun e => by
      have h1 := HA4.out.bk
      have h2 := (HB4.out.block _ (blk_lt HB.out.2)).trans HB.out.2
      rw [← e, h2] at h1
      cases h1
    have hne := HNe.out
    have hne2 : B ≠ Kb := fun e => hne e.symm
    go_wp2_with fail
    go_region
    obtain ⟨W5, hW5⟩ : ∃ W5, W5 = ((W4.setCell ⟨B, 1, none⟩ (.int .i64 la)).setCell ⟨B, 2, none⟩ (.int .i64 la)).drew := ⟨_, rfl⟩
    have HA5 : Hid (BA W5 B Mp Mc Mn cap la la [] [] [] ∧ Below W1.heap.size W1 W5) := by
      have hl := HCR.out.1
      rw [← HE.out.2.2.2.2] at hl
      have hbB : W1.heap.size ≤ B := HSB.out B (.inl rfl)
      have h2 := (HB4.out.setCell (p := ⟨B, 1, none⟩) hbB (.int .i64 la)).setCell (p := ⟨B, 2, none⟩) hbB (.int .i64 la)
      rw [hW5]
      exact ⟨(HA4.out.setNums la hl).same (fun _ _ => rfl), ⟨h2.os, h2.tape, h2.output, h2.size, h2.block⟩⟩
    rw [← hW5]
    clear hW5 k0 k1 k2 b1 b2 f1 f2 k0d b1d b2d f1d f2d hne hne2 HNe HA4 HB4
    obtain ⟨k0, k1, k2⟩ := HK.out W5 HA5.out.2
    go_wp2_with fail
    clear k0 k1 k2
    have hxp : Hid (pn = s.pins.length) := HE.out.1
    go_loopw [9, 42] (fun _ y wr => ∃ i : Nat, i ≤ pn ∧ y = .int .i64 (i : Int) ∧ Hid (BA wr B Mp Mc Mn cap la la (s.pins.take i) [] [] ∧ Below W1.heap.size W1 wr)) (fun _ y _ => pn - (intOf y).toNat)
    case atStart => exact ⟨0, Nat.zero_le _, rfl, HA5.out⟩
    case round =>
      clear HA5
      obtain ⟨i, hi, rfl, HI⟩ := hrel
      by_cases hlt : i < pn
      · have hil : i < s.pins.length := by have := HE.out.1; omega
        obtain ⟨b, off, hpa, c0, c1⟩ := (HS.out wr HI.out.2).pin (i := i) hil
        rw [← HE.out.2.2.1] at hpa
        subst hpa
        obtain ⟨hp1, hp2, hp3, hp4⟩ := pins_new HCR.out.2.1 hil
        rw [← HE.out.2.2.2.2] at hp1
        obtain ⟨U, hU⟩ : ∃ U, U = wr.alloc (.cells #[.int .i64 s.pins[i].1, .int .i64 s.pins[i].2] 72) := ⟨_, rfl⟩
        have hbU : Below wr.heap.size wr U := by rw [hU]; exact (Below.refl _ _).alloc (Nat.le_refl _) _
        have hUb : U.heap[wr.heap.size]? = some (.cells #[.int .i64 s.pins[i].1, .int .i64 s.pins[i].2] 72 (0, 0)) := by rw [hU]; exact heap_alloc_new _ _ rfl
        have hAU : BA U.drew B Mp Mc Mn cap la la (s.pins.take i) [] [] := (HI.out.1.kept hbU).same (fun _ _ => rfl)
        obtain ⟨W7, hput, hA7, hg7⟩ := hAU.addPin s.pins[i] hp1 hp2 hp3
        rw [← hp4] at hA7
        have HN7 : Hid (BA W7 B Mp Mc Mn cap la la (s.pins.take (i + 1)) [] [] ∧ Below W1.heap.size W1 W7) := by
          have h1 := HI.out.2.trans (hbU.mono HI.out.2.size)
          have h2 : Below W1.heap.size W1 U.drew := ⟨h1.os, h1.tape, h1.output, h1.size, h1.block⟩
          exact ⟨hA7, h2.grown hg7 h2.size (fun k e => by cases e; exact HSB.out _ (.inr (.inl rfl)))⟩
        obtain ⟨_, _, _, b3, _⟩ := hAU.cells
        have q0 : U.drew.cell? ⟨wr.heap.size, 0, none⟩ = some (.int .i64 s.pins[i].1) := by have h1 : U.drew.heap[wr.heap.size]? = _ := hUb; simp [World.cell?, h1]
        have q1 : U.drew.cell? ⟨wr.heap.size, 1, none⟩ = some (.int .i64 s.pins[i].2) := by have h1 : U.drew.heap[wr.heap.size]? = _ := hUb; simp [World.cell?, h1]
        clear hp1 hp2 hp3 hp4 hbU hUb hAU hA7 hg7 HI
        generalize s.pins[i].1 = p1 at *
        generalize s.pins[i].2 = p2 at *
        go_wp2_with fail
        rw [← hU]
        clear hU c0 c1
        go_region
        go_wp2
        exact ⟨⟨i + 1, by omega, by go_num, HN7.out⟩, by simp [intOf]; omega⟩
      · have hie : i = pn := by omega
        subst hie
        have HA6 : Hid (BA wr B Mp Mc Mn cap la la s.pins [] [] ∧ Below W1.heap.size W1 wr) := by
          have h1 := HI.out
          rw [HE.out.1, List.take_length] at h1
          exact h1
        clear HI
        generalize wr = W6 at *
        obtain ⟨k0, k1, k2⟩ := HK.out W6 HA6.out.2
        go_wp2_with fail
        clear k0 k1 k2
        have HIn : Hid (∀ c ∈ s.chs, KIn c.k ∧ ∀ v ∈ c.l, In64 v.b ∧ In64 v.i) := HO.out.ic
        have HNv := hidC HO.out.nv
        have HCn : Hid (cn = s.chs.length ∧ ca = s.ca ∧ la = s.la) := ⟨HE.out.2.1, HE.out.2.2.2.1, HE.out.2.2.2.2⟩
        have HCp : Hid ((snSize s.chs : Int) ≤ cap) := by have := HSze.out; show _ ≤ _; omega
        have HFin : Hid (∀ W nw, BA W B Mp Mc Mn cap la la s.pins (snV s.chs) nw → Below W1.heap.size W1 W → RestPost w cap s (.returned (.tuple #[ptr B, .int .i64 0])) W) := fun W nw hA hW => by
          refine .inr ⟨HE0.out, B, Mp, Mc, Mn, nw, rfl, ?_, fun k hk => Nat.le_trans HB.out.1.size (HSB.out k hk), HBw.out W hW⟩
          rw [HCn.out.2.2] at hA
          exact hA
        clear HO HE HBw HE0 HSze hxp HB hrb hrm HK
        go_loopw [11, 13, 58, 65] (fun _ _ y _ wr => ∃ i : Nat, i ≤ cn ∧ y = .int .i64 (i : Int) ∧ Hid (∃ nw, BA wr B Mp Mc Mn cap la la s.pins (snV (s.chs.take i)) nw ∧ Below W1.heap.size W1 wr)) (fun _ _ y _ _ => cn - (intOf y).toNat)
        case atStart => exact ⟨0, Nat.zero_le _, rfl, [], HA6.out⟩
        case round =>
          clear HA6
          obtain ⟨i, hi, rfl, HI⟩ := hrel
          by_cases hlt : i < cn
          · have hil : i < s.chs.length := by have := HCn.out.1; omega
            obtain ⟨nw0, hA0, hb0⟩ := HI.out
            obtain ⟨b, off, hca, c0, c1, c2⟩ := (HS.out wr hb0).chain (i := i) hil
            rw [← HCn.out.2.1] at hca
            subst hca
            have hsn := HNv.out _ (List.getElem_mem hil)
            obtain ⟨U, hU⟩ : ∃ U, U = wr.alloc (.cells #[.int .i64 s.chs[i].k.1, .int .i64 s.chs[i].k.2, .slice s.chs[i].a s.chs[i].l.length s.chs[i].c] 75) := ⟨_, rfl⟩
            obtain ⟨Cb, hCb⟩ : ∃ Cb, Cb = wr.heap.size := ⟨_, rfl⟩
            have HU0 : Hid (∃ nw, BA U B Mp Mc Mn cap la la s.pins (snV (s.chs.take i) ++ (chV s.chs[i]).take 0) nw ∧ Below W1.heap.size W1 U ∧ U.heap[Cb]? = some (.cells #[.int .i64 s.chs[i].k.1, .int .i64 s.chs[i].k.2, .slice s.chs[i].a s.chs[i].l.length s.chs[i].c] 75 (0, 0))) := by
              have hbU : Below wr.heap.size wr U := by rw [hU]; exact (Below.refl _ _).alloc (Nat.le_refl _) _
              refine ⟨nw0, ?_, hb0.trans (hbU.mono hb0.size), by rw [hU, hCb]; exact heap_alloc_new _ _ rfl⟩
              rw [List.take_zero, List.append_nil]
              exact hA0.kept hbU
            have HSt : Hid (∀ (j : Nat) (hj : j < s.chs[i].l.length), isKey s.chs[i].k = true ∧ PlOK la (s.chs[i].k, (s.chs[i].l[j].b, s.chs[i].l[j].i)) ∧ (∀ u ∈ snV (s.chs.take i) ++ (chV s.chs[i]).take j, u.1 = s.chs[i].k → later (s.chs[i].k, (s.chs[i].l[j].b, s.chs[i].l[j].i)) u) ∧ ((snV (s.chs.take i) ++ (chV s.chs[i]).take j).length : Int) + 1 ≤ cap ∧ (chV s.chs[i]).take (j + 1) = (chV s.chs[i]).take j ++ [(s.chs[i].k, (s.chs[i].l[j].b, s.chs[i].l[j].i))]) := fun j hj => by
              obtain ⟨r1, r2, r3, r4, r5⟩ := restStep HCR.out hil hj
              rw [← HCn.out.2.2] at r2
              have := HCp.out
              exact ⟨r1, r2, r3, by omega, r5⟩
            have HT : Hid (snV (s.chs.take (i + 1)) = snV (s.chs.take i) ++ (chV s.chs[i]).take s.chs[i].l.length) := by
              show _ = _
              rw [List.take_succ_eq_append_getElem hil, snV_append]
              have e1 : snV [s.chs[i]] = chV s.chs[i] := by simp [snV]
              have e2 : s.chs[i].l.length = (chV s.chs[i]).length := by simp [chV]
              rw [e1, e2, List.take_length]
            have HVs : Hid (∀ W, Below W1.heap.size W1 W → CsAt N W s.chs[i].a (scs s.chs[i].l)) := fun W hW => (HS.out W hW).vs _ (List.getElem_mem hil)
            have HKi : Hid (KIn s.chs[i].k ∧ ∀ v ∈ s.chs[i].l, In64 v.b ∧ In64 v.i) := HIn.out _ (List.getElem_mem hil)
            clear hA0 hb0 HI
            generalize s.chs[i] = cj at *
            obtain ⟨⟨x1, x2⟩, sa, sc, sl⟩ := cj
            simp only at c0 c1 c2 HU0 HSt HT HVs HKi hsn hU
            obtain ⟨sn, hsn'⟩ : ∃ sn, sn = sl.length := ⟨_, rfl⟩
            rw [← hsn'] at c2 HU0 HT hsn hU
            have HSn := hidC hsn'
            clear hsn'
            generalize hP0 : snV (s.chs.take i) = P0 at *
            generalize hP1 : snV (s.chs.take (i + 1)) = P1 at *
            go_wp2_with fail
            rw [← hU, ← hCb]
            clear hU hCb c0 c1 c2
            go_loopw [13, 65] (fun _ y wr => ∃ j : Nat, j ≤ sn ∧ y = .int .i64 (j : Int) ∧ Hid (∃ nw, BA wr B Mp Mc Mn cap la la s.pins (P0 ++ (chV ⟨(x1, x2), sa, sc, sl⟩).take j) nw ∧ Below W1.heap.size W1 wr ∧ wr.heap[Cb]? = some (.cells #[.int .i64 x1, .int .i64 x2, .slice sa sn sc] 75 (0, 0)))) (fun _ y _ => sn - (intOf y).toNat)
            case atStart => exact ⟨0, Nat.zero_le _, rfl, HU0.out⟩
            case round =>
              clear HU0
              obtain ⟨j, hj, rfl, HJ⟩ := hrel
              by_cases hjlt : j < sn
              · have hjl : j < sl.length := by have := HSn.out; omega
                obtain ⟨nw1, hA1, hb1, hbx1⟩ := HJ.out
                obtain ⟨b', off', hsa, d0, d1, d2, d3⟩ := (HVs.out wr hb1).stamp hjl
                subst hsa
                obtain ⟨r1, r2, r3, r4, r5⟩ := HSt.out j hjl
                have hin := HKi.out.2 _ (List.getElem_mem hjl)
                have hki := HKi.out.1
                generalize sl[j].b = y1 at *
                generalize sl[j].i = y2 at *
                generalize sl[j].s = y3 at *
                generalize sl[j].v = y4 at *
                obtain ⟨U2, hU2⟩ : ∃ U2, U2 = wr.alloc (.cells #[.int .i64 y1, .int .i64 y2, .bool y3, .int .i64 y4] 112) := ⟨_, rfl⟩
                have hbU : Below wr.heap.size wr U2 := by rw [hU2]; exact (Below.refl _ _).alloc (Nat.le_refl _) _
                have hAU := hA1.kept hbU
                have HCt := hidC (count_any U2 B Mp Mc Mn cap la la s.pins _ nw1 hAU ((x1, x2), (y1, y2)) ⟨hki, hin⟩ r1 r2 r3 r4)
                have hbxU : U2.heap[Cb]? = some (.cells #[.int .i64 x1, .int .i64 x2, .slice (some ⟨b', off', none⟩) sn sc] 75 (0, 0)) := (hbU.block _ (blk_lt hbx1)).trans hbx1
                have hnS : ¬ SB B Mp Mc Mn Cb := fun hS => by
                  rcases hS with e | e | e | e
                  · have := hAU.bk; rw [← e, hbxU] at this; cases this
                  · obtain ⟨_, _, h4, _⟩ := hAU.mp.ex; rw [← e, hbxU] at h4; cases h4
                  · obtain ⟨_, _, h4, _⟩ := hAU.mc.ex; rw [← e, hbxU] at h4; cases h4
                  · obtain ⟨_, _, h4, _⟩ := hAU.mn.ex; rw [← e, hbxU] at h4; cases h4
                have HNx : Hid (∀ W, BA W B Mp Mc Mn cap la la s.pins ((P0 ++ (chV ⟨(x1, x2), some ⟨b', off', none⟩, sc, sl⟩).take j) ++ [((x1, x2), (y1, y2))]) (nwP nw1 (x1, x2)) → Fr (SB B Mp Mc Mn) U2 W → ∃ nw, BA W B Mp Mc Mn cap la la s.pins (P0 ++ (chV ⟨(x1, x2), some ⟨b', off', none⟩, sc, sl⟩).take (j + 1)) nw ∧ Below W1.heap.size W1 W ∧ W.heap[Cb]? = some (.cells #[.int .i64 x1, .int .i64 x2, .slice (some ⟨b', off', none⟩) sn sc] 75 (0, 0))) := fun W hA hf => by
                  refine ⟨_, by rw [r5, ← List.append_assoc]; exact hA, ?_, (hf.block _ (blk_lt hbxU) hnS).trans hbxU⟩
                  have h1 := hb1.trans (hbU.mono hb1.size)
                  exact h1.trans (hf.below h1.size HSB.out)
                have hbx2 : ∀ o, (wr.alloc o).heap[Cb]? = some (.cells #[.int .i64 x1, .int .i64 x2, .slice (some ⟨b', off', none⟩) sn sc] 75 (0, 0)) := fun o => (heap_alloc_old _ _ (blk_lt hbx1)).trans hbx1
                have q0 : ∀ o, (wr.alloc o).cell? ⟨Cb, 0, none⟩ = some (.int .i64 x1) := fun o => by have h1 := hbx2 o; simp [World.cell?, h1]
                have q1 : ∀ o, (wr.alloc o).cell? ⟨Cb, 1, none⟩ = some (.int .i64 x2) := fun o => by have h1 := hbx2 o; simp [World.cell?, h1]
                clear hA1 hb1 hbx1 hbU hAU hbxU hnS hbx2 r1 r2 r3 r4 r5 HJ hin hki HSt HVs HT HS
                generalize P0 ++ (chV ⟨(x1, x2), some ⟨b', off', none⟩, sc, sl⟩).take j = Q0 at *
                go_wp2_with fail
                rw [← hU2]
                clear hU2 q0 q1 d0 d1 d2 d3
                refine HCt.out.mono ?_
                rintro e W8 ⟨⟨xx, rfl⟩, hA8, hf8⟩
                have HN8 := hidC (HNx.out W8 hA8 hf8)
                clear hA8 hf8 HNx HCt
                go_wp2
                exact ⟨⟨j + 1, by omega, by go_num, HN8.out⟩, by simp [intOf]; omega⟩
              · have hje : j = sn := by omega
                subst hje
                have HF : Hid (∃ nw, BA wr B Mp Mc Mn cap la la s.pins P1 nw ∧ Below W1.heap.size W1 wr) := by
                  obtain ⟨nw, hA, hb, _⟩ := HJ.out
                  rw [← HT.out] at hA
                  exact ⟨nw, hA, hb⟩
                clear HJ HSt HVs HT
                go_wp2
                refine ⟨⟨i + 1, by omega, by go_num, ?_⟩, by simp [intOf]; omega⟩
                rw [hP1]
                exact HF.out
          · have hie : i = cn := by omega
            subst hie
            obtain ⟨nw, hA, hb⟩ := HI.out
            rw [HCn.out.1, List.take_length] at hA
            have HX := hidC (HFin.out wr nw hA hb)
            clear hA hb HI HFin
            go_wp2
            go_ret2
            exact HX.out
end Go.Proofs.Ytibdogniiglcjab
