import Derived.Test.YtcaibgbhebldmaaGreatJ29
import Derived.Test.YtcaibgbhebldmaaGreatJ30
import Derived.Test.YtcaibgbhebldmaaGreatJ41
/-
  A REGION THAT DRAWS ITS ORDER, ONLY READS, AND STORES WITH ITS LAST OPERATION, FOR WHICH ALL OTHERS ARE WAITED: one walk in the text's order; also in the round of a loop over a function.
-/
namespace Go.Proofs.YtcaibgbhebldmaaGreat
open Go.RowKit Go.Sort

/-- all have come but the last, which may come now; behind it nothing is left -/
def lastB (md : Region.Mode) (ops : Array Oper) (N : Nat) (listed : Array Bool) : Bool := (Region.ready md ops listed == [N]) && (Region.ready md ops (listed.setIfInBounds N true)).isEmpty
/-- the text's order goes, up to the last -/
def lexL (md : Region.Mode) (ops : Array Oper) (N : Nat) : Nat → Nat → Array Bool → Bool
  | 0, _, listed => lastB md ops N listed
  | fuel + 1, k, listed => (Region.ready md ops listed).contains k && Region.free md ops listed k && lexL md ops N fuel (k + 1) (listed.setIfInBounds k true)
/-- the last waits for each other -/
def waitsB (md : Region.Mode) (ops : Array Oper) (N : Nat) : Bool := match ops[N]? with
  | some o => (List.range N).all fun i => o.after.any fun e => Region.binds md e && e.on == i
  | none => false
theorem waits_spec {md : Region.Mode} {ops : Array Oper} {N : Nat} (h : waitsB md ops N = true) {listed : Array Bool} {i : Nat} (hi : i < N) (hN : N ∈ Region.ready md ops listed) : listed.getD i false = true := by
  obtain ⟨_, o, ho, hall⟩ := mem_ready.1 hN
  unfold waitsB at h
  rw [ho] at h
  have h1 := List.all_eq_true.1 h i (List.mem_range.2 hi)
  obtain ⟨e, he, hb⟩ := Array.any_eq_true'.1 h1
  simp only [Bool.and_eq_true, beq_iff_eq] at hb
  have := hall e he hb.1
  rwa [hb.2] at this
theorem unlisted {md : Region.Mode} {ops : Array Oper} {listed : Array Bool} {i : Nat} (hr : i ∈ Region.ready md ops listed) : ¬ listed.getD i false = true := by
  have h0 := (mem_ready.1 hr).1
  intro h1
  rcases Nat.lt_or_ge i listed.size with h' | h'
  · simp [h'] at h0 h1; rw [h0] at h1; cases h1
  · simp [Array.getElem?_eq_none h'] at h1

def wpQ2 (F : Fence) (n : Nat) (P : Program) (md : Region.Mode) (ops : Array Oper) (C : World → Prop) (N : Nat) (Q : Act → Prop) : Nat → Array Bool → Act → Prop
  | 0, listed, a => lastB md ops N listed = true ∧ Q a
  | fuel + 1, listed, a => Region.ready md ops listed ≠ [] ∧ ∀ i ∈ Region.ready md ops listed, qOpIn F n P ops C i (wpQ2 F n P md ops C N Q fuel (listed.setIfInBounds i true)) a

theorem wpQ2_first {F : Fence} {n : Nat} {P : Program} {md : Region.Mode} {ops : Array Oper} {C : World → Prop} {N : Nat} {Q : Act → Prop} {i : Nat} {oi : Oper} {v : Value} (hN : waitsB md ops N = true) (hiN : i < N) (hi : ops[i]? = some oi) (hsel : ∀ (j : Nat) (o : Oper) cs b, ops[j]? = some o → o.op ≠ .select cs b) :
    ∀ (fuel : Nat) (listed : Array Bool) (a : Act),
      (∀ j oj, ops[j]? = some oj → j ≠ i → listed.getD j true = false → (∀ e ∈ oj.after, Region.binds md e = true → e.on ≠ i) → oi.apart ops oj = true) →
      i ∈ Region.ready md ops listed → YieldsQuiet F n P ops C oi v a →
      wpQ2 F n P md ops C N Q fuel (listed.setIfInBounds i true) (a.put oi.dst v) → wpQ2 F n P md ops C N Q (fuel + 1) listed a := by
  intro fuel
  induction fuel with
  | zero =>
    intro listed a _ hr hy H
    refine ⟨fun h => (by rw [h] at hr; cases hr), fun j hj => ?_⟩
    by_cases hji : j = i
    · subst hji; exact hy.qOpIn hi H
    · have h1 := ready_mono hj hji
      have h2 := H.1
      simp only [lastB, Bool.and_eq_true, beq_iff_eq] at h2
      rw [h2.1] at h1
      simp at h1
      subst h1
      exact absurd (waits_spec hN hiN hj) (unlisted hr)
  | succ fuel ih =>
    intro listed a hfree hr hy H
    refine ⟨fun h => (by rw [h] at hr; cases hr), fun j hj => ?_⟩
    by_cases hji : j = i
    · subst hji; exact hy.qOpIn hi H
    · have h1 := H.2 j (ready_mono hj hji)
      obtain ⟨hjun, oj, hoj, hall⟩ := mem_ready.1 hj
      have hnot : ∀ e ∈ oj.after, Region.binds md e = true → e.on ≠ i := fun e he hb heq => by
        have h1 := hall e he hb
        rw [heq] at h1
        exact unlisted hr h1
      have h2 := qOpIn_put hoj (hfree j oj hoj hji hjun hnot) (fun cs b => hsel i oi cs b hi) (fun cs b => hsel j oj cs b hoj) hy h1
      refine qOpIn_mono (fun a' h3 => ih (listed.setIfInBounds j true) a' (fun k ok hk hki hun hno => ?_) (ready_mono hr (Ne.symm hji)) h3.1 ?_) h2
      · refine hfree k ok hk hki ?_ hno
        by_cases hjk : j = k
        · subst hjk; exact hjun
        · rw [getD_set_ne true hjk] at hun; exact hun
      · rw [Array.setIfInBounds_comm _ _ hji]
        exact h3.2

theorem wpQ2_lex {F : Fence} {n : Nat} {P : Program} {md : Region.Mode} {ops : Array Oper} {C : World → Prop} {N : Nat} {Q : Act → Prop} (hN : waitsB md ops N = true) (hs : Region.noSelect ops = true) : ∀ (l : List Oper) (k : Nat) (listed : Array Bool) (a : Act), k + l.length ≤ N → (∀ j, j < l.length → l[j]? = ops[k + j]?) →
    lexL md ops N l.length k listed = true → wpQuietIn F n P ops C Q l a → wpQ2 F n P md ops C N Q l.length listed a
  | [], _, _, _, _, _, hB, h => ⟨hB, h⟩
  | o :: l, k, listed, a, hk, hl, hB, h => by
    have h0 : ops[k]? = some o := by simpa using (hl 0 (by simp)).symm
    simp only [List.length_cons] at hk
    simp only [List.length_cons, lexL, Bool.and_eq_true] at hB
    obtain ⟨⟨hr, hf⟩, hB'⟩ := hB
    have hst : qOpIn F n P ops C k (wpQuietIn F n P ops C Q l) a := by unfold qOpIn; simp only [h0]; exact h
    obtain ⟨v, hy, hK⟩ := yieldsQuiet_of_qOpIn h0 hst
    exact wpQ2_first hN (by omega) h0 (Region.noSelect_spec hs) l.length listed a (Region.free_spec h0 hf) (by simpa using hr) hy
      (wpQ2_lex hN hs l (k + 1) _ _ (by omega) (fun j hj => by have := hl (j + 1) (by simp; omega); simpa [Nat.add_assoc, Nat.add_comm 1 j] using this) hB' hK)

theorem wpAnyIn_of_Q2 {F : Fence} {n : Nat} {P : Program} {md : Region.Mode} {ops : Array Oper} {C : World → Prop} {N : Nat} {o : Oper} {Q : Exit → Act → World → Prop} (hro : F.round = none) (ho : ops[N]? = some o) :
    ∀ (fuel : Nat) (listed : Array Bool) (a : Act) (w : World), C w → wpQ2 F n P md ops C N (fun a' => ∀ w', C w' → wpListIn F n P ops Q [o] a' w') fuel listed a → wpAnyIn F n P md ops Q (fuel + 1) listed a w
  | 0, listed, a, w, hw, h => by
    have h1 := h.1
    simp only [lastB, Bool.and_eq_true, beq_iff_eq, List.isEmpty_iff] at h1
    refine ⟨fun h0 => (by rw [h1.1] at h0; cases h0), fun i hi => ?_⟩
    rw [h1.1] at hi
    simp at hi
    subst hi
    have h2 := h.2 w hw
    unfold wpListIn at h2
    unfold wpOpIn
    simp only [ho]
    split
    · rename_i hwn
      rw [if_pos hwn] at h2
      exact Oper.wpIn_mono (fun a w hk => ⟨h1.2, hk⟩) h2
    · rename_i hwn
      rw [if_neg hwn] at h2
      exact ⟨h2.1, h1.2, h2.2⟩
  | fuel + 1, listed, a, w, hw, h => ⟨fun h0 => absurd h0 h.1, fun i hi => wpOpIn_of_qOpIn hro hw (fun a' w' hw' hq => wpAnyIn_of_Q2 hro ho fuel _ a' w' hw' hq) (h.2 i hi)⟩

/-- IN A ROUND -/
theorem region_round_last {F : Fence} {n l : Nat} {P : Program} {id : Nat} {Q : Exit → Act → World → Prop} {a : Act} {w : World} {ops : List Oper} (N : Nat) {o : Oper} (hro : F.round = none) (hm : P.follows .mixedOrders = true) (hd : ops.toArray.all noDefer = true)
    (hB : (Region.noSelect ops.toArray && waitsB .any ops.toArray N && lexL .any ops.toArray N N 0 (Array.replicate ops.length false)) = true) (hsz : ops.length = N + 1) (ho : ops[N]? = some o)
    (h : wpQuietIn F n P ops.toArray (fun w' => ∃ n, w' = w.drewN n) (fun a' => ∀ w', (∃ n, w' = w.drewN n) → wpListIn F n P ops.toArray Q [o] a' w') (ops.take N) a) : (Code.region id ops.toArray true).wpIn (F.inRound l) n P Q a w := by
  simp only [Bool.and_eq_true] at hB
  refine wpIn_region_any hm (wpAny_round hro hd _ _ _ _ ?_)
  rw [List.size_toArray]
  have hlen : (ops.take N).length = N := by rw [List.length_take]; omega
  have h2 := wpQ2_lex (F := F) (n := n) (C := fun w' => ∃ n, w' = w.drewN n) hB.1.2 hB.1.1 (ops.take N) 0 (Array.replicate ops.length false) a (by omega) (fun j hj => by
    rw [hlen] at hj
    rw [List.getElem?_take, if_pos hj]; simp) (by rw [hlen]; exact hB.2) h
  rw [hlen] at h2
  have h3 := wpAnyIn_of_Q2 hro (by simpa using ho) N _ a (w.drewN 1) ⟨1, rfl⟩ h2
  rw [← hsz] at h3
  exact h3

end Go.Proofs.YtcaibgbhebldmaaGreat
/-
  THE WALK OF Longest.
-/
namespace Go.Proofs.YtcaibgbhebldmaaGreat
open Go.RowKit Go.Sort Go.Shelf

attribute [local go_sem] Oper.semAt_some

set_option maxHeartbeats 1000000 in
set_option maxRecDepth 100000 in
theorem longest_any (w : World) (p : Nums) (ao : Option Addr) (n cap : Nat) (L : List K) (hp : NIn p) (h : KeysAt w ao L) (hn : n = L.length) :
    Calls Tryz.prog 15 #[pv p ao n cap] w fun e w' => e = .returned (.tuple #[.int .i64 (longestN p L).1, .int .i64 (longestN p L).2]) ∧ Below w.heap.size w w' := by
  have HL : Hid (KeysAt w ao L) := h
  have HN : Hid (n = L.length) := hn
  have HP : Hid (NIn p) := hp
  clear h hn hp
  refine (callsIn_wide (n := 10)).1 ?_
  refine callsIn_of_wp_marks Tryz.func15 rfl trivial ?_ rfl
  simp only [Tryz.ntmps15, List.size_toArray, List.length_cons, List.length_nil, Nat.reduceAdd, Nat.reduceSub, Array.replicate_succ, Array.replicate_zero, List.push_toArray, List.append_toArray, List.nil_append, List.cons_append]
  gi_wp2_with fail
  have hB0 : Below w.heap.size w (w.alloc (.cells #[.int .i64 p.args, .int .i64 p.reads, .int .i64 p.writes, .int .i64 p.locals, .slice ao n cap] 50)) := (Below.refl _ _).alloc (Nat.le_refl _) _
  refine ⟨trivial, (callsIn_wide.2 (verify_any _ p ao n cap L HP.out (HL.out.kept hB0) HN.out)).mono ?_⟩
  rintro e w1 ⟨rfl, hb1⟩
  have HB1 : Hid (PBox w1 w.heap.size p ao n cap) := (PBox.new w p ao n cap).kept hb1
  have HW1 : Hid (Below w.heap.size w w1) := hB0.trans (hb1.mono hB0.size)
  clear hb1 hB0
  obtain ⟨x0, x1, x2, x3, x4⟩ := HB1.out.cells
  have HV : Hid (∀ v, verifyN p L = v → v ≠ 0 → longestN p L = (0, v)) := fun v h h0 => by unfold longestN; rw [h, if_pos h0]
  have HV0 : Hid (verifyN p L = 0 → longestN p L = ((mostN L L.length).getD 0 0, 0) ∧ Sane L ∧ n ≤ 256) := fun h => by
    obtain ⟨h1, h2, _⟩ := verify_ok h
    refine ⟨by unfold longestN; rw [h, if_neg (by simp)], sane_of h2, ?_⟩
    rw [HN.out]; exact ((limB_iff p L.length).1 h1).2.2.2.2
  generalize hv : verifyN p L = v at *
  by_cases h0 : v = 0
  · subst h0
    obtain ⟨hl1, hl2, hm⟩ := HV0.out rfl
    have HL1 : Hid (longestN p L = ((mostN L L.length).getD 0 0, 0)) := hl1
    have HS : Hid (Sane L) := hl2
    clear hl1 hl2 HV0 HV hv
    have hmk := make_ints (n + 1) ((n : Int) + 1) (by omega) (by omega)
    obtain ⟨g, hg⟩ : ∃ g, g = w1.heap.size := ⟨_, rfl⟩
    have hbA : Below w1.heap.size w1 ((w1.alloc (.cells (cellsI (List.replicate (n + 1) 0)) 3)).alloc (.cells #[.slice (some ⟨w1.heap.size, 0, none⟩) (n + 1) (n + 1)] 97)) := ((Below.refl _ _).alloc (Nat.le_refl _) _).alloc (by simp) _
    have x4' : ((w1.alloc (.cells (cellsI (List.replicate (n + 1) 0)) 3)).alloc (.cells #[.slice (some ⟨w1.heap.size, 0, none⟩) (n + 1) (n + 1)] 97)).cell? ⟨w.heap.size, 4, none⟩ = some (.slice ao n cap) := (hbA.cell (p := ⟨w.heap.size, 4, none⟩) HB1.out.lt).trans x4
    have HLI : Hid (LI w1 (((w1.alloc (.cells (cellsI (List.replicate (n + 1) 0)) 3)).alloc (.cells #[.slice (some ⟨w1.heap.size, 0, none⟩) (n + 1) (n + 1)] 97)).alloc (.cells #[.slice ao n cap] 48)) g (g + 1) (g + 1 + 1) n cap ao (List.replicate (n + 1) 0)) := by
      subst hg
      have e1 := RowI.new w1 (List.replicate (n + 1) 0)
      have e2 := Boxed.new (w1.alloc (.cells (cellsI (List.replicate (n + 1) 0)) 3)) 97 (.slice (some ⟨w1.heap.size, 0, none⟩) (n + 1) (n + 1))
      have e3 := Boxed.new ((w1.alloc (.cells (cellsI (List.replicate (n + 1) 0)) 3)).alloc (.cells #[.slice (some ⟨w1.heap.size, 0, none⟩) (n + 1) (n + 1)] 97)) 48 (.slice ao n cap)
      simp only [World.size_alloc] at e2 e3
      exact ⟨(e1.alloc _).alloc _, e2.alloc _, e3, hbA.alloc (by simp; omega) _⟩
    have HSz : Hid ((((w1.alloc (.cells (cellsI (List.replicate (n + 1) 0)) 3)).alloc (.cells #[.slice (some ⟨w1.heap.size, 0, none⟩) (n + 1) (n + 1)] 97)).alloc (.cells #[.slice ao n cap] 48)).heap.size = g + 3) := by rw [hg]; simp [Hid]
    gi_wp2_with fail
    refine ⟨trivial, (callsIn_wide.2 (backward_any _ ao n cap)).mono ?_⟩
    rintro e W2 ⟨rfl, rfl⟩
    clear x0 x1 x2 x3 x4 x4' hmk hbA
    simp only [World.size_alloc]
    rw [← hg] at HLI HSz ⊢
    gi_wp2_with fail
    generalize ((w1.alloc (.cells (cellsI (List.replicate (n + 1) 0)) 3)).alloc (.cells #[.slice (some ⟨g, 0, none⟩) (n + 1) (n + 1)] 97)).alloc (.cells #[.slice ao n cap] 48) = W5 at *
    have hsz := HSz.out
    obtain ⟨Bm, hBm⟩ : ∃ Bm, Bm = g + 1 := ⟨_, rfl⟩
    obtain ⟨Bs, hBs⟩ : ∃ Bs, Bs = g + 1 + 1 := ⟨_, rfl⟩
    rw [← hBs, ← hBm] at HLI
    rw [← hBs, ← hBm]
    have hK5 : KeysAt W5 ao L := ((HL.out.kept HW1.out).below HLI.out.bel (by rw [hg]; exact (HL.out.kept HW1.out).lt))
    have hlt5 : ∀ a, L ≠ [] → ao = some a → a.block < g := by rw [hg]; exact (HL.out.kept HW1.out).lt
    have hI0 : LInv w1 g Bm Bs n cap ao L [] W5 := ⟨_, HLI.out, by simp, fun j hj => by simp at hj; simp [List.getD_eq_getElem?_getD, hj], fun _ => by rw [HN.out]; rfl⟩
    have HG : Hid (g = w1.heap.size ∧ Bm = g + 1 ∧ Bs = g + 1 + 1 ∧ W5.heap.size = g + 3) := ⟨hg, hBm, hBs, hsz⟩
    have hgm : g < Bm := by omega
    have hms : Bm < Bs := by omega
    have hs5 : Bs < W5.heap.size := by omega
    have hsg : Bs < g + 3 := by omega
    have h5g : W5.heap.size ≤ g + 3 := by omega
    clear hg hBm hBs hsz HSz
    refine wpIn_rangeFunc_ownH rfl (by omega) (gf := 66) (lb := #[.pointer (some ⟨Bs, 0, none⟩)]) rfl trivial (enters_of Tryz.func66 (by kernel_rfl) rfl)
      (back_stops Fence.wide 9 trivial rfl (by omega) Bs g n cap ao L (by omega) HN.out W5 (by omega) HLI.out.bs.cell hK5 hlt5) KB.trans (KB.put (by omega) (by omega)) (Below.refl _ _) (fun _ => rfl)
      (fun pre W => LInv w1 g Bm Bs n cap ao L pre W)
      (fun _ _ _ => False)
      (fun pre X Y row hs hgr hr => by
        obtain ⟨m, h1, h2⟩ := hs
        refine ⟨m, h1.keep (fun k hk => hgr.block k (by rcases hk with rfl | rfl | rfl; exact h1.row.lt; exact h1.bm.lt; exact h1.bs.lt) (fun e => by have := (hr k e.symm).1; omega)) ?_, h2⟩
        exact ⟨hgr.os, hgr.tape, hgr.output, hgr.size, fun k hk => hgr.block k (by have := h1.row.lt; omega) (fun e => by have := (hr k e.symm).1; omega)⟩)
      (fun c => ownFrom_pure _ _)
      hI0
      (fun x a' W => ∃ Bx, g + 3 ≤ Bx ∧ (W.cell? ⟨Bx, 0, none⟩ = some (.int .i64 (cd L (cl n x)).1) ∧ W.cell? ⟨Bx, 1, none⟩ = some (.int .i64 (cd L (cl n x)).2)) ∧ a' = { tmps := #[pv p ao n cap, (.pointer (some ⟨w.heap.size, 0, none⟩)), (.int .i64 0), (.int .i64 0), (.int .i64 0), (.pointer (some ⟨Bm, 0, none⟩)), (.int .i64 ((cl n x : Nat) : Int)), (.pointer (some ⟨Bx, 0, none⟩)), undef, undef, undef, undef, (.agg #[.int .i64 p.args, .int .i64 p.reads, .int .i64 p.writes, .int .i64 p.locals, .slice ao n cap]), (.int .i64 0), (.int .i64 0), (.bool false), undef, (.pointer (some ⟨w.heap.size, 4, none⟩)), (.slice ao n cap), (.int .i64 (n : Int)), (.int .i64 ((n : Int) + 1)), (.slice (some ⟨g, 0, none⟩) (n + 1) (n + 1)), (.pointer (some ⟨w.heap.size, 4, none⟩)), (.slice ao n cap), (.func (.func 66) #[] #[.pointer (some ⟨Bs, 0, none⟩)]), (.int .i64 ((cl n x : Nat) : Int)), (.agg #[.int .i64 (cd L (cl n x)).1, .int .i64 (cd L (cl n x)).2]), undef, undef, undef, undef, undef, undef, undef, undef, undef, undef, undef, undef, undef, undef, undef, undef, undef, undef, undef, undef, undef, undef, undef, undef, undef, undef, undef, undef, undef, undef, undef, undef, undef, undef, undef], defers := [] })
      (fun x a' _ X Y row hs hgr hr => by
        obtain ⟨Bx, e1, ⟨e2, e4⟩, e3⟩ := hs
        exact ⟨Bx, e1, ⟨cell_kept e2 hgr (fun r e => (hr r e).2), cell_kept e4 hgr (fun r e => (hr r e).2)⟩, e3⟩)
      ?assign ?body ?done ?stop
    case stop => rintro D c pre W hD _ hIx _; exact absurd hIx id
    case assign =>
      rintro l pre x W K hI hK
      gi_wp2
      obtain ⟨m, h1, h2⟩ := hI
      have hbA : Below W.heap.size W (W.alloc (.cells #[.int .i64 (cd L (cl n x)).1, .int .i64 (cd L (cl n x)).2] 102)) := (Below.refl _ _).alloc (Nat.le_refl _) _
      have hWs : g + 3 ≤ W.heap.size := by have := h1.bs.lt; have := HG.out; omega
      exact hK _ _ ((KeepsOthers.alloc _ _).from _) (KB.ofBelow hbA (by omega) (by omega)) ⟨m, h1.kept hbA, h2⟩ ⟨W.heap.size, hWs, Box.new rfl, rfl⟩
    case done =>
      rintro D ys W hD rfl ⟨m, h1, hml, hfew, hch⟩ hK
      have HM := hch (chn_dn n n)
      rw [dn_length] at HM
      have HMo : Hid (m = mostN L n) := HM
      clear HM
      have cB := h1.bm.cell
      have cR := h1.row.cell 0 (by omega)
      have HZ : Hid (m.getD 0 0 = (mostN L L.length).getD 0 0) := by rw [HMo.out, HN.out]; rfl
      generalize m.getD 0 0 = z at *
      have HW2 : Hid (Below w.heap.size w W) := HW1.out.trans (h1.bel.mono (by rw [HG.out.1]; exact HW1.out.size))
      gi_wp2
      have hwD : w.heap.size ≤ D := by have := HW1.out.size; have := HG.out.1; omega
      refine ⟨by simp, .inl ⟨D, _, rfl, run_takeDeferred hK, ?_⟩⟩
      refine ⟨.tuple #[.int .i64 z, .int .i64 0], by simp [results, Tryz.f15, go_sem], by rw [HL1.out, HZ.out], ?_⟩
      exact HW2.out.trans (belowK_b (w := w) (Nat.le_refl _) W D _ (.deferred none) hwD hK rfl rfl)
    case body =>
      rintro l pre x a' W hl ⟨r, hr⟩ ⟨m, h1, hml, hfew, hch⟩ ⟨Bx, hBx, ⟨c1, c2⟩, rfl⟩ hlt
      have hn0 : 0 < n := by omega
      have hi : cl n x < n := cl_lt hn0
      have HC : Hid (Chn n (pre ++ [x]) → Chn n pre ∧ cl n x = L.length - 1 - pre.length ∧ pre.length < L.length) := fun h => by
        obtain ⟨k1, k2⟩ := chn_snoc h
        have := HN.out
        refine ⟨k1, by rw [cl_of (by omega)]; omega, by omega⟩
      generalize cl n x = i at *
      have HK : Hid (i < L.length) := by have := HN.out; show i < L.length; omega
      have HNx : Hid (∀ j, j < (nextN i (cd L i).1 (cd L i).2).length → arrD (onw i (cd L i).1 (cd L i).2).1 (onw i (cd L i).1 (cd L i).2).2.1 j = (((nextN i (cd L i).1 (cd L i).2).getD j 0 : Nat) : Int)) := fun j hj => arr_next HS.out HK.out j hj
      have HNl : Hid ((onw i (cd L i).1 (cd L i).2).2.2 = ((nextN i (cd L i).1 (cd L i).2).length : Int)) := (onw_next HS.out HK.out).1
      have HNt : Hid (∀ t ∈ nextN i (cd L i).1 (cd L i).2, i < t ∧ t ≤ n) := by have := next_lt HS.out HK.out; rw [← HN.out] at this; exact this
      have HN2 : Hid ((nextN i (cd L i).1 (cd L i).2).length ≤ 2) := next_two _ _ _
      have HSt : Hid (stepM L m i = m.set i (foldM m (nextN i (cd L i).1 (cd L i).2) (m.getD i 0) + 1)) := rfl
      have HI : Hid (LI w1 W g Bm Bs n cap ao m) := h1
      have HF : Hid (m.length = n + 1 ∧ Few m (pre.length : Int)) := ⟨hml, hfew⟩
      have HCh : Hid (Chn n pre → m = mostN L pre.length) := hch
      clear h1 hml hfew hch
      generalize hkk : cd L i = kk at *
      obtain ⟨op, a⟩ := kk
      clear hkk
      simp only at c1 c2 HNx HNl HNt HN2 HSt
      have hWs : Bs < W.heap.size := HI.out.bs.lt
      gi_wp2_with fail
      refine ⟨trivial, (CallsIn.inRound l (callsIn_wide.2 (onward_any _ op a i (by omega)))).mono ?_⟩
      rintro e W4 ⟨rfl, hb4⟩
      have HI4 : Hid (LI w1 W4 g Bm Bs n cap ao m) := HI.out.kept hb4
      have HK4 : Hid (KeepsOthers W W4 ∧ KB g Bs W W4) := ⟨keeps_below hb4, KB.ofBelow hb4 (by omega) hWs⟩
      have HA4 : Hid (ArrAt (W4.alloc (.cells #[.int .i64 (onw i op a).1, .int .i64 (onw i op a).2.1] 103)) W4.heap.size (onw i op a).1 (onw i op a).2.1) := arr_new _ _ _
      have hb5 : Below W4.heap.size W4 (W4.alloc (.cells #[.int .i64 (onw i op a).1, .int .i64 (onw i op a).2.1] 103)) := (Below.refl _ _).alloc (Nat.le_refl _) _
      have HI5 : Hid (LI w1 (W4.alloc (.cells #[.int .i64 (onw i op a).1, .int .i64 (onw i op a).2.1] 103)) g Bm Bs n cap ao m) := HI4.out.kept hb5
      have HK5 : Hid (KeepsOthers W (W4.alloc (.cells #[.int .i64 (onw i op a).1, .int .i64 (onw i op a).2.1] 103)) ∧ KB g Bs W (W4.alloc (.cells #[.int .i64 (onw i op a).1, .int .i64 (onw i op a).2.1] 103))) :=
        ⟨HK4.out.1.trans (keeps_below hb5), HK4.out.2.trans (KB.ofBelow hb5 (by have := HI4.out.bs.lt; omega) HI4.out.bs.lt)⟩
      clear hb4 hb5 HI4 HK4 c1 c2
      rw [tripleV, HNl.out]
      clear HNl
      generalize (onw i op a).1 = X at *
      generalize (onw i op a).2.1 = Y at *
      generalize nextN i op a = nx at *
      have hc2 := HN2.out
      obtain ⟨c, hc⟩ : ∃ c, c = nx.length := ⟨_, rfl⟩
      rw [← hc] at hc2 ⊢
      have HCc : Hid (c = nx.length) := hc
      clear hc
      have hsl := fun u => slice_arr u W4.heap.size c hc2
      gi_wp2_with fail
      clear hsl
      generalize W4.heap.size = B2 at *
      generalize W4.alloc (.cells #[.int .i64 X, .int .i64 Y] 103) = W6 at *
      have hBm' : Bm ≠ g := by omega
      have hBs' : Bs ≠ g := by omega
      have HFw : Hid (∀ j, j < m.length → 0 ≤ m.getD j 0 ∧ m.getD j 0 ≤ (pre.length : Int)) := HF.out.2
      have HLe : Hid (i < m.length) := by have := HF.out.1; show i < m.length; omega
      have hpl : pre.length < 256 := by omega
      gi_loopw [36] (fun y wr => ∃ (j : Nat) (acc : Int), j ≤ c ∧ y = .int .i64 (j : Int) ∧ Hid (foldM m nx (m.getD i 0) = foldM m (nx.drop j) acc) ∧ Hid (0 ≤ acc ∧ acc ≤ (pre.length : Int)) ∧ Hid (LI w1 wr g Bm Bs n cap ao (m.set i acc)) ∧ Hid (ArrAt wr B2 X Y) ∧ Hid (KeepsOthers W wr ∧ KB g Bs W wr)) (fun y _ => c - (intOf y).toNat)
      case atStart => exact ⟨0, m.getD i 0, by omega, rfl, by rw [List.drop_zero]; rfl, HFw.out i HLe.out, by rw [set_self]; exact HI5, HA4, HK5⟩
      case round =>
        obtain ⟨j, acc, hj, rfl, HP, HAcc, HIj, HAj, HKj⟩ := hrel
        have cB := HIj.out.bm.cell
        have cI := HIj.out.row.cell i (by rw [List.length_set]; exact HLe.out)
        rw [getD_set _ _ _ _ HLe.out, if_pos rfl] at cI
        have fI := HIj.out.row.frozen i
        obtain ⟨ha0, ha1⟩ := HAcc.out
        by_cases hlj : j < c
        · have HJ : Hid (j < nx.length) := by have := HCc.out; show j < nx.length; omega
          have ca := HAj.out.at j (by omega)
          rw [HNx.out j HJ.out] at ca
          have HT := HNt.out (nx.getD j 0) (by rw [List.getD_eq_getElem?_getD, List.getElem?_eq_getElem HJ.out]; simp)
          have HP' := HP.out
          rw [drop_getD nx j HJ.out, foldM_cons] at HP'
          have HP1 : Hid (foldM m nx (m.getD i 0) = foldM m (nx.drop (j + 1)) (max acc (m.getD (nx.getD j 0) 0))) := HP'
          clear HP HP'
          generalize nx.getD j 0 = t at *
          obtain ⟨ht1, ht2⟩ := HT
          have htl : t < m.length := by have := HF.out.1; omega
          have cT := HIj.out.row.cell t (by rw [List.length_set]; exact htl)
          rw [getD_set _ _ _ _ htl, if_neg (by omega)] at cT
          obtain ⟨hy0, hy1⟩ := HFw.out t htl
          have HI2 : Hid (∀ q z, LI w1 ((wr.drewN q).setCell ⟨g, i, none⟩ (.int .i64 z)) g Bm Bs n cap ao (m.set i z)) := fun q z => by
            have := (HIj.out.drewN q).set i z hBm' hBs'
            rwa [List.set_set] at this
          have HA2 : Hid (∀ q z, ArrAt ((wr.drewN q).setCell ⟨g, i, none⟩ (.int .i64 z)) B2 X Y) := fun q z => ArrAt.set (W := wr.drewN q) HAj.out (HAj.out.ne HIj.out.row) i _
          have HK2 : Hid (∀ q z, KeepsOthers W ((wr.drewN q).setCell ⟨g, i, none⟩ (.int .i64 z)) ∧ KB g Bs W ((wr.drewN q).setCell ⟨g, i, none⟩ (.int .i64 z))) := fun q z =>
            ⟨HKj.out.1.trans ((show KeepsOthers wr (wr.drewN q) from ⟨Nat.le_refl _, fun _ _ h _ => h⟩).trans (KeepsOthers.setCell _ _ _)), HKj.out.2.trans ((show KB g Bs wr (wr.drewN q) from ⟨⟨rfl, rfl, rfl, Nat.le_refl _, fun _ _ => rfl⟩, rfl⟩).trans (KB.set (A := wr.drewN q) _ (Nat.le_refl _) hBs'))⟩
          generalize m.getD t 0 = y at *
          clear htl HFw
          gi_wp2_with fail
          refine region_round_last (F := Fence.wide) (l := l) 12 rfl (by kernel_rfl) (by kernel_rfl) (by kernel_rfl) rfl rfl ?_
          show wpQuietIn _ _ _ _ _ _ [_, _, _, _, _, _, _, _, _, _, _, _] _
          repeat (gi_big_quiet_step (fail))
          refine wpQuietIn_nil ?_
          rintro _ ⟨nq, rfl⟩
          gi_wp2_with fail
          exact ⟨⟨j + 1, max acc y, by omega, by go_num, HP1, ⟨by omega, by omega⟩, HI2.out nq _, HA2.out nq _, HK2.out nq _⟩, by simp [intOf]; omega⟩
        · obtain rfl : j = c := by omega
          have HE : Hid (foldM m nx (m.getD i 0) = acc) := HP.out.trans (by rw [HCc.out, List.drop_length]; rfl)
          gi_wp2
          refine ⟨(HKj.out.1.trans (KeepsOthers.setCell _ _ _)).from _, HKj.out.2.trans (KB.set _ (Nat.le_refl _) hBs'), m.set i (acc + 1), ?_, ?_, ?_, ?_⟩
          · have := HIj.out.set i (acc + 1) hBm' hBs'
            rwa [List.set_set] at this
          · rw [List.length_set]; exact HF.out.1
          · have hfw : Few m ((pre ++ [x]).length : Int) := Few.mono HF.out.2 (by simp; omega)
            exact hfw.set i (by rw [List.length_append, List.length_singleton]; push_cast; omega)
          · intro hc
            obtain ⟨k1, k2, k3⟩ := HC.out hc
            have e1 := HCh.out k1
            rw [List.length_append, List.length_singleton, most_step L pre.length k3, ← e1, ← k2, HSt.out, HE.out]
  · have h0' : (v != 0) = true := by simpa using h0
    have HE : Hid (longestN p L = (0, v)) := HV.out v rfl h0
    gi_wp2
    refine ⟨.tuple #[.int .i64 0, .int .i64 v], by simp [results, Tryz.f15, go_sem], by rw [HE.out], HW1.out⟩

end Go.Proofs.YtcaibgbhebldmaaGreat
/-
  THE WALK OF VmEnds.
-/
namespace Go.Proofs.YtcaibgbhebldmaaGreat
open Go.RowKit Go.Sort

/-- WHAT HAS COME OF A RUN -/
theorem ends_math {p : Nums} {L : List K} {A : List Int} {R : List C} (h : newE p L A R = 0) :
    ((runX p L A R).steps : Int) ≤ (mostN L L.length).getD 0 0 ∧ ((runX p L A R).puts.length : Int) = p.writes ∧ (runX p L A R).out.length ≤ 16 ∧ (runX p L A R).puts.length ≤ 16 ∧
    (((runX p L A R).commit = true ∧ (runX p L A R).code = 0 ∧ (runX p L A R).user = 0) ∨ ((runX p L A R).commit = false ∧ 200 ≤ (runX p L A R).code ∧ (runX p L A R).code ≤ 204 ∧ (runX p L A R).puts = List.replicate p.writes.toNat (0, 0) ∧ (runX p L A R).out = [] ∧ ((runX p L A R).user = 0 ∨ (runX p L A R).code = 200))) := by
  obtain ⟨hv, _, _⟩ := newE_zero h
  obtain ⟨d, hs⟩ := sound_of hv
  have hg := run_keeps (A := A) (R := R) hs (good_start hs) L.length
  have hd := last_done (A := A) (R := R) hs (good_start hs)
  have hX : runX p L A R = ⟨(lastM L A R (startM p)).fault == 0, (lastM L A R (startM p)).fault, (lastM L A R (startM p)).user, (lastM L A R (startM p)).ou, (lastM L A R (startM p)).pu, (lastM L A R (startM p)).steps⟩ := by
    unfold runX effN; rw [if_neg (by simp [h]), if_pos hd]
  have hlim := (limB_iff p L.length).1 hs.lim
  rw [hX]
  change Good p L d (lastM L A R (startM p)) at hg
  generalize lastM L A R (startM p) = m at *
  have hmn := most_nonneg hs.sane m.at_ hg.pl
  have hpu := hg.pu
  refine ⟨?_, by show (m.pu.length : Int) = _; omega, hg.ou, by show m.pu.length ≤ 16; omega, ?_⟩
  · show (m.steps : Int) ≤ _
    cases he : m.ended with
    | false => have := (hg.live he).2.2.2; omega
    | true => exact (hg.dead he).1
  · show ((m.fault == 0) = true ∧ m.fault = 0 ∧ m.user = 0) ∨ ((m.fault == 0) = false ∧ 200 ≤ m.fault ∧ m.fault ≤ 204 ∧ m.pu = _ ∧ m.ou = [] ∧ (m.user = 0 ∨ m.fault = 200))
    cases he : m.ended with
    | false =>
      obtain ⟨_, h2, h3, _⟩ := hg.live he
      exact .inl ⟨by rw [h2]; rfl, h2, h3⟩
    | true =>
      rcases (hg.dead he).2 with ⟨h2, h3⟩ | ⟨h1, h2, _, h4, h5, h6⟩
      · exact .inl ⟨by rw [h2]; rfl, h2, h3⟩
      · exact .inr ⟨by simp; omega, h1, h2, h5, h4, h6⟩
theorem zero_read (w : World) : EfR w none none zeroEf := ⟨.inl rfl, .inl rfl⟩
theorem longN {p : Nums} {L : List K} : longestN p L = if verifyN p L ≠ 0 then (0, verifyN p L) else ((mostN L L.length).getD 0 0, 0) := rfl
theorem put_zero {w : World} {ao : Option Addr} {n : Nat} (h : CellsAt w ao (cks (List.replicate n (0, 0)))) (k : Nat) (hk : k < n) : ∃ b off, ao = some ⟨b, off, none⟩ ∧ w.cell? ⟨b, off + k * 2, none⟩ = some (.int .i64 0) ∧ w.cell? ⟨b, off + k * 2 + 1, none⟩ = some (.int .i64 0) := by
  obtain ⟨b, off, e, h1, h2⟩ := h.put k (by simpa using hk)
  have e1 : kd (List.replicate n ((0 : Int), (0 : Int))) k = (0, 0) := by simp [kd, cd, List.getD_eq_getElem?_getD, hk]
  rw [e1] at h1 h2
  exact ⟨b, off, e, h1, h2⟩
/-- Run that is refused -/
theorem run_err (w : World) (p : Nums) (ao : Option Addr) (n cap : Nat) (L : List K) (aa : Option Addr) (na ca : Nat) (A : List Int) (ra : Option Addr) (nr cr : Nat) (R : List C) (hin : CallIn w p ao n cap L aa na ca A ra nr cr R) (hN : newE p L A R ≠ 0) :
    Calls Tryz.prog 14 #[pv p ao n cap, .slice aa na ca, .slice ra nr cr] w fun e w' => ∃ a1 k1 a2 k2, e = .returned (.tuple #[.agg (eP false 0 0 a1 0 k1 a2 0 k2 0), .int .i64 (newE p L A R)]) ∧ Go.RowKit.Below w.heap.size w w' := by
  have hX : runX p L A R = zeroEf := if_pos hN
  have h := run_use w p ao n cap L aa na ca A ra nr cr R hin
  rw [hX] at h
  exact h.mono fun e w' ⟨a1, k1, a2, k2, he, _, hb⟩ => ⟨a1, k1, a2, k2, he, hb⟩
/-- an effect's parts -/
structure Done (p : Nums) (L : List K) (w' : World) (co : Bool) (cd us : Int) (S : List Int) (U : List K) (a1 a2 : Option Addr) (st : Nat) : Prop where
  out : CellsAt w' a1 (S.map iv)
  puts : CellsAt w' a2 (cks U)
  steps : (st : Int) ≤ (mostN L L.length).getD 0 0
  pl : (U.length : Int) = p.writes
  ol : S.length ≤ 16
  pl16 : U.length ≤ 16
  end_ : (co = true ∧ cd = 0 ∧ us = 0) ∨ (co = false ∧ 200 ≤ cd ∧ cd ≤ 204 ∧ U = List.replicate p.writes.toNat (0, 0) ∧ S = [] ∧ (us = 0 ∨ cd = 200))
theorem run_ok (w : World) (p : Nums) (ao : Option Addr) (n cap : Nat) (L : List K) (aa : Option Addr) (na ca : Nat) (A : List Int) (ra : Option Addr) (nr cr : Nat) (R : List C) (hin : CallIn w p ao n cap L aa na ca A ra nr cr R) (hN : newE p L A R = 0) :
    Calls Tryz.prog 14 #[pv p ao n cap, .slice aa na ca, .slice ra nr cr] w fun e w' => ∃ co cd us S U a1 k1 a2 k2 st, e = .returned (.tuple #[.agg (eP co cd us a1 (List.length S) k1 a2 (List.length U) k2 ((st : Nat) : Int)), .int .i64 0]) ∧ Done p L w' co cd us S U a1 a2 st ∧ Go.RowKit.Below w.heap.size w w' := by
  have h := run_use w p ao n cap L aa na ca A ra nr cr R hin
  rw [hN] at h
  obtain ⟨m1, m2, m3, m4, m5⟩ := ends_math hN
  exact h.mono fun e w' ⟨a1, k1, a2, k2, he, hr, hb⟩ => ⟨_, _, _, _, _, a1, k1, a2, k2, _, he, ⟨hr.1, hr.2, m1, m2, m3, m4, m5⟩, hb⟩

end Go.Proofs.YtcaibgbhebldmaaGreat
