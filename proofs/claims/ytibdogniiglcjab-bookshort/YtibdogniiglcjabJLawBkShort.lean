import Derived.Test.YtibdogniiglcjabJBkWgt
import Derived.Test.YtibdogniiglcjabJBkLent
import Derived.Test.YtibdogniiglcjabJBkShortM
import Derived.Test.YtibdogniiglcjabJBkShortH
import Derived.Test.YtibdogniiglcjabJBkVers
import Derived.Deep.RegionHeld3
import Derived.Test.YtibdogniiglcjabKList
import Derived.SizedLaws
import Derived.Lib.SmallJoins
import Derived.Deep.Slices
import Derived.ChangeOld
import Derived.ProofKit
import Derived.OpenShut
/-
  BookShort: THE LAW.
-/
namespace Go.Proofs.Ytibdogniiglcjab
open Go.RowKit Go.Sort

def ShPost (w : World) (e : Ending) (w' : World) : Prop := e = .returned (.bool true) ∧ Below w.heap.size w w'
set_option maxHeartbeats 4000000 in
set_option maxRecDepth 100000 in
theorem lawBkShort (w : World) (cap : Int) (rs : Bool) (s : Sn) (hs : SnAt w.heap.size w s) (hsi : SnIn s) (ao : Option Addr) (n c : Nat) (os : List Oc) (hn : n = os.length) (hops : OpsAt (fun k => w.heap.size ≤ k) w ao os) (hin : OpsIn os) (hnb : n * 56 ≤ 140737488351232) (hc0 : ao = none → c = 0)
    (wa : Option Addr) (wn wc : Nat) (L : List (List K)) (hwn : wn = L.length) (hw : RWs (fun k => w.heap.size ≤ k) w wa L) (hwi : ∀ s ∈ L, ∀ k ∈ s, KIn k) (hwb : wn ≤ 140737488351232) (hwb2 : ∀ s ∈ L, s.length ≤ 8796093022208) :
    Calls Try.prog 5 #[mdv cap rs s, .slice ao n c, .slice wa wn wc] w fun e w' => ShPost w e w' := by
  obtain ⟨pn, hpn⟩ : ∃ pn, pn = s.pins.length := ⟨_, rfl⟩
  obtain ⟨cn, hcn⟩ : ∃ cn, cn = s.chs.length := ⟨_, rfl⟩
  obtain ⟨pa, hpa⟩ : ∃ pa, pa = s.pa := ⟨_, rfl⟩
  obtain ⟨ca, hca⟩ : ∃ ca, ca = s.ca := ⟨_, rfl⟩
  obtain ⟨pc, hpc⟩ : ∃ pc, pc = s.pc := ⟨_, rfl⟩
  obtain ⟨cc, hcc⟩ : ∃ cc, cc = s.cc := ⟨_, rfl⟩
  obtain ⟨la, hla⟩ : ∃ la, la = s.la := ⟨_, rfl⟩
  have hmv : mdv cap rs s = .agg #[.int .i64 cap, .bool rs, .int .i64 la, .slice pa pn pc, .slice ca cn cc] := by rw [hla, hpa, hpn, hpc, hca, hcn, hcc]; rfl
  obtain ⟨W1, hW1⟩ : ∃ W1, W1 = w.alloc (.cells #[.int .i64 cap, .bool rs, .int .i64 la, .slice pa pn pc, .slice ca cn cc] 29) := ⟨_, rfl⟩
  obtain ⟨Kb, hKb⟩ : ∃ Kb, Kb = w.heap.size := ⟨_, rfl⟩
  have HB : Hid (Below w.heap.size w W1 ∧ W1.heap[Kb]? = some (.cells #[.int .i64 cap, .bool rs, .int .i64 la, .slice pa pn pc, .slice ca cn cc] 29 (0, 0))) := by
    rw [hW1, hKb]
    exact ⟨(Below.refl _ _).alloc (Nat.le_refl _) _, heap_alloc_new _ _ rfl⟩
  have HK : Hid (∀ W, Below W1.heap.size W1 W → W.cell? ⟨Kb, 0, none⟩ = some (.int .i64 cap) ∧ W.cell? ⟨Kb, 1, none⟩ = some (.bool rs) ∧ W.cell? ⟨Kb, 2, none⟩ = some (.int .i64 la) ∧ W.cell? ⟨Kb, 3, none⟩ = some (.slice pa pn pc) ∧ W.cell? ⟨Kb, 4, none⟩ = some (.slice ca cn cc)) := fun W hW => by
    have h4 : W.heap[Kb]? = _ := (hW.block _ (blk_lt HB.out.2)).trans HB.out.2
    refine ⟨?_, ?_, ?_, ?_, ?_⟩ <;> simp [World.cell?, h4]
  have HS : Hid (∀ W, Below w.heap.size w W → SnAt w.heap.size W s) := fun W hW => hs.below hW
  have HO : Hid (∀ W, Below w.heap.size w W → OpsAt (fun k => w.heap.size ≤ k) W ao os) := fun W hW => hops.fr ⟨hW.os, hW.tape, hW.output, hW.size, fun k hk _ => hW.block k hk⟩
  have HL : Hid (∀ W, Below w.heap.size w W → RWs (fun k => w.heap.size ≤ k) W wa L) := fun W hW => hw.fr ⟨hW.os, hW.tape, hW.output, hW.size, fun k hk _ => hW.block k hk⟩
  have HBw : Hid (∀ W, Below W1.heap.size W1 W → Below w.heap.size w W) := fun W hW => HB.out.1.trans (hW.mono HB.out.1.size)
  have HE := hidC (And.intro hpn (And.intro hcn (And.intro hpa (And.intro hca hla))))
  -- the script with one call more, and its parts
  obtain ⟨ow, how⟩ : ∃ ow : Oc, ow = ⟨0, wa, wc, L, 0, (0, 0)⟩ := ⟨_, rfl⟩
  have hbd : Below W1.heap.size W1 W1.drew := drew_below W1 1
  have HPg : Hid (∀ X g, X.heap[g]? = some (.cells #[] 40 (0, 0)) → W1.heap.size ≤ g → Below W1.heap.size W1 X → ∀ ty, ∃ v1 X1, (Builtin.append_ #[22, 22] ty #[.slice (some ⟨g, 0, none⟩) 0 0, .slice ao n c]).run Try.prog X = .ok v1 X1 ∧ (∃ a m c, v1 = .slice a m c) ∧ (X1.ownsRow w.heap.size 40 5 v1 n (ocs os) ∧ Below W1.heap.size W1 X1 ∧ (∀ k, v1.ownBlock = some k → W1.heap.size ≤ k) ∧ ∀ k, k < X.heap.size → k ≠ g → X1.heap[k]? = X.heap[k]?)) := fun X g hg hgl hbX ty => by
    have hr0 : X.ownsRow w.heap.size 40 5 (.slice (some ⟨g, 0, none⟩) 0 0) 0 [] := ⟨rfl, .inr ⟨g, 0, #[], rfl, Nat.le_trans HB.out.1.size hgl, hg, Nat.le_refl _, by unfold maxLen; omega, rfl, rfl⟩⟩
    have hsrc := (HO.out X (HBw.out X hbX)).cs
    obtain ⟨v', w', z1, z2, z3, z4⟩ := akOp.app2 (w := X) ty w.heap.size _ 0 [] hr0 X.heap.size ao n c (ocs os) (by rw [ocs_length, hn]) hsrc hc0 (ocs_one os) (by omega) (by omega) (by have := (HBw.out X hbX).size; omega)
    rw [Nat.zero_add, List.nil_append] at z2
    refine ⟨v', w', z1, ?_, z2, hbX.grown z3 hbX.size (fun k e => by cases e; exact hgl), fun k e => ?_, fun k hk hne => z3.block k hk (fun e => by cases e; exact hne rfl)⟩
    · obtain ⟨_, ⟨rfl, _⟩ | ⟨g, cp, cur, rfl, _⟩⟩ := z2
      · exact ⟨_, _, _, rfl⟩
      · exact ⟨_, _, _, rfl⟩
    · rcases z4 with e4 | e4
      · rw [e] at e4; cases e4; exact hgl
      · rw [e] at e4; cases e4; exact hbX.size
  have HPA : Hid (∀ ty, ∃ v1 X1, (Builtin.append_ #[22, 22] ty #[.slice (some ⟨W1.heap.size, 0, none⟩) 0 0, .slice ao n c]).run Try.prog (W1.drew.alloc (.cells #[] 40)) = .ok v1 X1 ∧ (∃ a m c, v1 = .slice a m c) ∧ (X1.ownsRow w.heap.size 40 5 v1 n (ocs os) ∧ Below W1.heap.size W1 X1 ∧ (∀ k, v1.ownBlock = some k → W1.heap.size ≤ k) ∧ ∀ k, k < (W1.drew.alloc (.cells #[] 40)).heap.size → k ≠ W1.heap.size → X1.heap[k]? = (W1.drew.alloc (.cells #[] 40)).heap[k]?)) := HPg.out _ _ (heap_alloc_new _ _ rfl) (Nat.le_refl _) (hbd.alloc hbd.size _)
  have HPB : Hid (∀ ty, ∃ v1 X1, (Builtin.append_ #[22, 22] ty #[.slice (some ⟨W1.heap.size, 0, none⟩) 0 0, .slice ao n c]).run Try.prog ((W1.drew.alloc (.cells #[] 40)).alloc (.cells #[.int .i64 0, .slice wa wn wc, .int .i64 0, .int .i64 0, .int .i64 0] 40)) = .ok v1 X1 ∧ (∃ a m c, v1 = .slice a m c) ∧ (X1.ownsRow w.heap.size 40 5 v1 n (ocs os) ∧ Below W1.heap.size W1 X1 ∧ (∀ k, v1.ownBlock = some k → W1.heap.size ≤ k) ∧ ∀ k, k < ((W1.drew.alloc (.cells #[] 40)).alloc (.cells #[.int .i64 0, .slice wa wn wc, .int .i64 0, .int .i64 0, .int .i64 0] 40)).heap.size → k ≠ W1.heap.size → X1.heap[k]? = ((W1.drew.alloc (.cells #[] 40)).alloc (.cells #[.int .i64 0, .slice wa wn wc, .int .i64 0, .int .i64 0, .int .i64 0] 40)).heap[k]?)) := HPg.out _ _ ((heap_alloc_old _ _ (by simp)).trans (heap_alloc_new _ _ rfl)) (Nat.le_refl _) ((hbd.alloc hbd.size _).alloc (by simp) _)
  have HPC : Hid (∀ ty, ∃ v1 X1, (Builtin.append_ #[22, 22] ty #[.slice (some ⟨W1.heap.size + 1, 0, none⟩) 0 0, .slice ao n c]).run Try.prog ((W1.drew.alloc (.cells #[.int .i64 0, .slice wa wn wc, .int .i64 0, .int .i64 0, .int .i64 0] 40)).alloc (.cells #[] 40)) = .ok v1 X1 ∧ (∃ a m c, v1 = .slice a m c) ∧ (X1.ownsRow w.heap.size 40 5 v1 n (ocs os) ∧ Below W1.heap.size W1 X1 ∧ (∀ k, v1.ownBlock = some k → W1.heap.size ≤ k) ∧ ∀ k, k < ((W1.drew.alloc (.cells #[.int .i64 0, .slice wa wn wc, .int .i64 0, .int .i64 0, .int .i64 0] 40)).alloc (.cells #[] 40)).heap.size → k ≠ W1.heap.size + 1 → X1.heap[k]? = ((W1.drew.alloc (.cells #[.int .i64 0, .slice wa wn wc, .int .i64 0, .int .i64 0, .int .i64 0] 40)).alloc (.cells #[] 40)).heap[k]?)) := HPg.out _ _ (heap_alloc_new _ _ (by simp)) (by omega) ((hbd.alloc hbd.size _).alloc (by simp) _)
  have HP2 : Hid (∀ X a1 n1 c1 q, X.ownsRow w.heap.size 40 5 (.slice a1 n1 c1) n (ocs os) → Below W1.heap.size W1 X → (∀ k, (Value.slice a1 n1 c1).ownBlock = some k → W1.heap.size ≤ k) → X.heap[q]? = some (.cells #[.int .i64 0, .slice wa wn wc, .int .i64 0, .int .i64 0, .int .i64 0] 40 (0, 0)) → ∀ ty, ∃ v2 X2, (Builtin.append_ #[22, 22] ty #[.slice a1 n1 c1, .slice (some ⟨q, 0, none⟩) 1 1]).run Try.prog X = .ok v2 X2 ∧ (∃ a m c, v2 = .slice a m c) ∧ (X2.ownsRow w.heap.size 40 5 v2 (n + 1) (ocs (os ++ [ow])) ∧ Below W1.heap.size W1 X2)) := fun X a1 n1 c1 q ho hb hown hq ty => by
    obtain ⟨v', w', z1, z2, z3, _⟩ := akOp.app2 (w := X) ty w.heap.size _ n _ ho X.heap.size (some ⟨q, 0, none⟩) 1 1 [.int .i64 0, .slice wa wn wc, .int .i64 0, .int .i64 0, .int .i64 0] rfl (fun j u hu => ⟨q, 0, rfl, blk_lt hq, by rw [World.cell?, hq, Nat.zero_add]; simpa using hu⟩) (by simp) (by intro u hu; simp at hu; rcases hu with rfl | rfl | rfl <;> rfl) (by omega) (by omega) (by have := (HBw.out X hb).size; omega)
    have e9 : ocs (os ++ [ow]) = ocs os ++ [.int .i64 0, .slice wa wn wc, .int .i64 0, .int .i64 0, .int .i64 0] := by rw [ocs_append, how, hwn]; rfl
    rw [← e9] at z2
    refine ⟨v', w', z1, ?_, z2, hb.grown z3 hb.size hown⟩
    obtain ⟨_, ⟨rfl, _⟩ | ⟨g, cp, cur, rfl, _⟩⟩ := z2
    · exact ⟨_, _, _, rfl⟩
    · exact ⟨_, _, _, rfl⟩
  have HP3 : Hid (∀ X2 a2 n2 c2, X2.ownsRow w.heap.size 40 5 (.slice a2 n2 c2) (n + 1) (ocs (os ++ [ow])) → Below W1.heap.size W1 X2 → Calls Try.prog 8 #[.agg #[.int .i64 cap, .bool rs, .int .i64 la, .slice pa pn pc, .slice ca cn cc], .slice a2 n2 c2] X2 fun e w' => ∃ r, e = .returned (.int .i64 r) ∧ PartsO pn (s.chs.map (fun c => c.l.length)) (os ++ [ow]) r ∧ Below X2.heap.size X2 w') := fun X2 a2 n2 c2 ho hb => by
    have hbw := HBw.out X2 hb
    obtain ⟨hn2, _⟩ := rowCs ho
    have hl : (os ++ [ow]).length = n + 1 := by rw [List.length_append, hn]; rfl
    have hops2 : OpsAt (fun _ => False) X2 a2 (os ++ [ow]) := by
      refine OpsAt.own (base := w.heap.size) (m := n2) (c := c2) (by rw [hl]; exact ho) (fun o ho' => ?_)
      rcases List.mem_append.1 ho' with h1 | h1
      · obtain ⟨i, hi, rfl⟩ := List.getElem_of_mem h1
        obtain ⟨_, _, _, hoc⟩ := HO.out X2 hbw i hi
        exact ⟨hoc.ws.weak (fun _ h => h.elim), hoc.big, hoc.bigs⟩
      · simp at h1
        subst h1
        rw [how]
        exact ⟨(HL.out X2 hbw).weak (fun _ h => h.elim), by simp only; omega, hwb2⟩
    have hch : ChsAt X2 ca (s.chs.map (fun c => c.l.length)) := by rw [hca]; exact (HS.out X2 hbw).chs hsi.nv
    exact partsO_any (fun _ => False) X2 cap rs la pa pn pc ca cn cc _ a2 n2 c2 (os ++ [ow]) (by rw [List.length_map]; exact hcn) (by rw [hn2, hl]) hch hops2 (by rw [hpn]; exact hsi.np) (by rw [hcn]; exact hsi.nc) (by omega)
  have HN := hidC (And.intro hn (And.intro hwn how))
  have HIn := hidC (And.intro hin (And.intro hwi hsi))
  have HMv := hidC hmv
  rw [hmv]
  clear hpn hcn hpa hca hpc hcc hla hs hops hw hmv hn hwn how hin hwi hsi hwb2 hc0
  go_enter Try.func5, Try.ntmps5
  go_upto_region 1 with fail
  rw [← hW1, ← hKb]
  clear hW1 hKb
  obtain ⟨k0, k1, k2, k3, k4⟩ := HK.out W1 (Below.refl _ _)
  go_region_held3 (fun w' => w'.cell? ⟨Kb, 0, none⟩ = some (.int .i64 cap) ∧ w'.cell? ⟨Kb, 1, none⟩ = some (.bool rs) ∧ w'.cell? ⟨Kb, 2, none⟩ = some (.int .i64 la) ∧ w'.cell? ⟨Kb, 3, none⟩ = some (.slice pa pn pc) ∧ w'.cell? ⟨Kb, 4, none⟩ = some (.slice ca cn cc)) (first | with_reducible exact HK.out _ HQ3.out | with_reducible exact HK.out _ HQ2.out | with_reducible exact HK.out _ HQ1.out | with_reducible exact HK.out _ (HQ1.out.alloc HQ1.out.size _) | go_keep) (first
    | (refine step_appG rfl _ _ 22 rfl (.slice (some ⟨W1.heap.size, 0, none⟩) 0 0) (.slice ao n c) rfl rfl HPA.out ?_; rintro v1 X1 ⟨⟨a1, n1, c1, rfl⟩, ho1, hb1, hw1, hk1⟩; have HO1 := hidC ho1; have HQ1 := hidC hb1; have HW1 := hidC hw1; have HK1 := hidC hk1; clear ho1 hb1 hw1 hk1)
    | (refine step_appG rfl _ _ 22 rfl (.slice (some ⟨W1.heap.size, 0, none⟩) 0 0) (.slice ao n c) rfl rfl HPB.out ?_; rintro v1 X1 ⟨⟨a1, n1, c1, rfl⟩, ho1, hb1, hw1, hk1⟩; have HO1 := hidC ho1; have HQ1 := hidC hb1; have HW1 := hidC hw1; have HK1 := hidC hk1; clear ho1 hb1 hw1 hk1)
    | (refine step_appG rfl _ _ 22 rfl (.slice (some ⟨W1.heap.size + 1, 0, none⟩) 0 0) (.slice ao n c) rfl rfl HPC.out ?_; rintro v1 X1 ⟨⟨a1, n1, c1, rfl⟩, ho1, hb1, hw1, hk1⟩; have HO1 := hidC ho1; have HQ1 := hidC hb1; have HW1 := hidC hw1; have HK1 := hidC hk1; clear ho1 hb1 hw1 hk1)
    | (refine step_appG rfl _ _ 22 rfl (.slice a1 n1 c1) (.slice (some ⟨X1.heap.size, 0, none⟩) 1 1) rfl rfl (HP2.out (X1.alloc (.cells #[.int .i64 0, .slice wa wn wc, .int .i64 0, .int .i64 0, .int .i64 0] 40)) a1 n1 c1 X1.heap.size (World.ownsRow.alloc HO1.out _) (HQ1.out.alloc HQ1.out.size _) HW1.out (heap_alloc_new _ _ rfl)) ?_; rintro v2 X2 ⟨⟨a2, n2, c2, rfl⟩, ho2, hb2⟩; have HO2 := hidC ho2; have HQ2 := hidC hb2; clear ho2 hb2)
    | (refine step_appG rfl _ _ 22 rfl (.slice a1 n1 c1) (.slice (some ⟨W1.heap.size + 1, 0, none⟩) 1 1) rfl rfl (HP2.out X1 a1 n1 c1 (W1.heap.size + 1) HO1.out HQ1.out HW1.out ((HK1.out (W1.heap.size + 1) (by simp) (by omega)).trans (heap_alloc_new _ _ (by simp)))) ?_; rintro v2 X2 ⟨⟨a2, n2, c2, rfl⟩, ho2, hb2⟩; have HO2 := hidC ho2; have HQ2 := hidC hb2; clear ho2 hb2)
    | (refine step_appG rfl _ _ 22 rfl (.slice a1 n1 c1) (.slice (some ⟨W1.heap.size, 0, none⟩) 1 1) rfl rfl (HP2.out X1 a1 n1 c1 W1.heap.size HO1.out HQ1.out HW1.out ((HK1.out W1.heap.size (by simp; omega) (by omega)).trans ((heap_alloc_old _ _ (by simp)).trans (heap_alloc_new _ _ rfl)))) ?_; rintro v2 X2 ⟨⟨a2, n2, c2, rfl⟩, ho2, hb2⟩; have HO2 := hidC ho2; have HQ2 := hidC hb2; clear ho2 hb2)
    | (go_at_call 8; with_reducible refine (HP3.out X2 a2 n2 c2 HO2.out HQ2.out).mono ?_; rintro e X3 ⟨r, rfl, hr, hb3⟩; have HPr := hidC hr; have HQ3 := hidC (HQ2.out.trans (hb3.mono HQ2.out.size)); clear hr hb3))
  all_goals (
    clear k0 k1 k2 k3 k4 HPA HPB HPC HPg HP2 HP3
    by_cases hr0 : r < 0
    · have hr1 : decide (r < 0) = true := decide_eq_true hr0
      have HX : Hid (ShPost w (.returned (.bool true)) X3) := ⟨rfl, HBw.out _ HQ3.out⟩
      go_wp2
      go_ret
      exact HX.out
    have hr1 : decide (r < 0) = false := decide_eq_false hr0
    have HPo := hidC (HPr.out (by omega))
    have HSo : Hid (SnOK s) := HIn.out.2.2.ok (os := os ++ [ow]) (r := r) (by rw [← HE.out.1]; exact HPr.out) (by omega)
    clear HPr
    go_wp2_with fail
    refine (works_any X3).mono ?_
    rintro e X4 ⟨rfl, hb4⟩
    have HQ4 := hidC (HQ3.out.trans (hb4.mono HQ3.out.size))
    clear hb4
    obtain ⟨k0, k1, k2, k3, k4⟩ := HK.out X4 HQ4.out
    have HMd : Hid (Calls Try.prog 19 #[.agg #[.int .i64 cap, .bool rs, .int .i64 la, .slice pa pn pc, .slice ca cn cc]] X4 fun e w' => MadePost X4 cap rs s e w') := by
      have h1 := made_any w.heap.size X4 cap rs s (HS.out X4 (HBw.out _ HQ4.out)) (HBw.out _ HQ4.out).size HSo.out
      rw [HMv.out] at h1
      exact h1
    go_wp2_with fail
    clear k0 k1 k2 k3 k4
    refine HMd.out.mono ?_
    rintro e X5 ⟨P, bv, rv, rfl, hP, hPl, hb5, ⟨_, rfl, rfl⟩ | ⟨_, B, Mp, Mc, Mn, nw0, R, av, pvv, rfl, rfl, hba, hsb, _⟩⟩
    · have p0 : X5.cell? ⟨P, 0, none⟩ = some (.pointer none) := by simp [World.cell?, hP]
      have HX : Hid (ShPost w (.returned (.bool true)) X5) := by
        have h1 := HBw.out _ HQ4.out
        exact ⟨rfl, h1.trans (hb5.mono h1.size)⟩
      clear hP hPl hb5 HMd
      go_wp2
      go_ret
      exact HX.out
    have p0 : X5.cell? ⟨P, 0, none⟩ = some (ptr B) := by simp [World.cell?, hP]
    have HB5 : Hid (Below w.heap.size w X5) := by
      have h1 := HBw.out _ HQ4.out
      exact h1.trans (hb5.mono h1.size)
    have HSb : Hid (∀ k, SB B Mp Mc Mn k → w.heap.size ≤ k) := fun k hk => Nat.le_trans (HBw.out _ HQ4.out).size (hsb k hk)
    have HA5 : Hid (∃ (st : Bs) (nw : List K), BA X5 B Mp Mc Mn cap st.la st.fl st.pins st.all nw ∧ Below w.heap.size w X5) := ⟨⟨mdL rs s, mdL rs s, mdP rs s, mdA rs s⟩, nw0, hba, HB5.out⟩
    clear hP hPl hb5 hba hsb HMd HQ4 HQ3 HQ2 HQ1 HO1 HO2 HW1 HK1 HSo
    go_wp2_with fail
    clear p0
    go_loopw [10] (fun y wr => ∃ i : Nat, i ≤ n ∧ y = .int .i64 (i : Int) ∧ Hid (∃ (st : Bs) (nw : List K), BA wr B Mp Mc Mn cap st.la st.fl st.pins st.all nw ∧ Below w.heap.size w wr)) (fun y _ => n - (intOf y).toNat)
    case atStart => exact ⟨0, Nat.zero_le _, rfl, HA5.out⟩
    case round =>
      clear HA5
      obtain ⟨i, hi, rfl, HI⟩ := hrel
      obtain ⟨st, nw, hA, hbw⟩ := HI.out
      by_cases hlt : i < n
      · have hil : i < os.length := by have := HN.out.1; omega
        obtain ⟨b, off, hao, hoc⟩ := HO.out wr hbw i hil
        subst hao
        have HPi := hidC (HPo.out.2.2.2.2 os[i] (by simp [List.getElem_mem hil]))
        have HIo := hidC (HIn.out.1 _ (List.getElem_mem hil))
        have HDo : Hid (Calls Try.prog 16 #[ptr B, opv os[i]] wr fun e w' => DoPost wr B Mp Mc Mn cap os[i] st e w') := do_any _ wr B Mp Mc Mn cap st nw hA os[i] ⟨HPi.out.1, HPi.out.2, HIo.out.1, HIo.out.2.1⟩ hoc.ws
        obtain ⟨_, _, c0, c1, c2, c3, c4, _⟩ := hoc
        have HNx : Hid (∀ e w', DoPost wr B Mp Mc Mn cap os[i] st e w' → (∃ r, e = .returned (.bool r)) ∧ ∃ (st : Bs) (nw : List K), BA w' B Mp Mc Mn cap st.la st.fl st.pins st.all nw ∧ Below w.heap.size w w') := fun e w' ⟨r, s', nw', h1, _, h3, h4⟩ => ⟨⟨r, h1⟩, s', nw', h3, hbw.trans (h4.below hbw.size HSb.out)⟩
        generalize os[i] = o at *
        obtain ⟨kind, oa, occ, oL, m, k1, k2⟩ := o
        simp only at c0 c1 c2 c3 c4
        simp only [opv] at HDo
        generalize oL.length = ln at *
        clear hA hbw HI HPi HIo
        go_wp2_with fail
        clear c0 c1 c2 c3 c4
        refine HDo.out.mono ?_
        intro e w9 hpost
        obtain ⟨⟨rr, rfl⟩, hx⟩ := HNx.out e w9 hpost
        have HX9 := hidC hx
        clear hx hpost HDo HNx
        go_wp2
        exact ⟨⟨i + 1, by omega, by go_num, HX9.out⟩, by simp [intOf]; omega⟩
      · have HA6 := hidC hA
        have HB6 := hidC hbw
        clear hA hbw HI
        generalize wr = X6 at *
        go_wp2_with fail
        refine (collect_any X6 B Mp Mc Mn cap st.la st.fl st.pins st.all nw HA6.out).mono ?_
        rintro e X7 ⟨d, all', hd1, hd2, hcn, rfl, hba7, hf7⟩
        have HSh := hidC (shrt_of hba7 hcn hd2)
        have HCn := hidC (And.intro hcn hd2)
        have HA7 := hidC hba7
        have HB7 : Hid (Below w.heap.size w X7) := HB6.out.trans (hf7.below HB6.out.size HSb.out)
        have hpl : st.pins.length ≤ 32 := hba7.ps.1
        have hal : all'.length ≤ 65536 := by have := hba7.ln; have := hba7.cp; omega
        clear hba7 hcn hf7 hd1 hd2 HA6 HB6
        go_wp2_with fail
        refine (keysB_any X7 B Mp Mc Mn cap st.la st.la st.pins all' nw HA7.out).mono ?_
        rintro e X8 ⟨kvv, rfl, hok, hkl, hb8⟩
        obtain ⟨ka, kc, rfl, hka, _, _⟩ := hok.slice
        have HA8 := hidC (HA7.out.kept hb8)
        have HB8 := hidC (HB7.out.trans (hb8.mono HB7.out.size))
        have HKa : Hid (∀ W, Below X8.heap.size X8 W → KeysAt W ka (sortK nw)) := fun W hW => hka.kept hW
        have HKl := hidC hkl
        clear hok hka hb8 HA7 HB7
        obtain ⟨kn, hkn⟩ : ∃ kn, kn = (sortK nw).length := ⟨_, rfl⟩
        have HKn := hidC hkn
        rw [← hkn]
        have hkn2 : kn ≤ 65536 := by
          have h1 := HSh.out.total
          have h2 : (sortK nw).length ≤ ((sortK nw).map (fun k => (ofV k all').length)).sum := by
            have h3 : ∀ S : List K, (∀ k ∈ S, 1 ≤ (ofV k all').length) → S.length ≤ (S.map (fun k => (ofV k all').length)).sum := by
              intro S
              induction S with
              | nil => intro _; simp
              | cons k S ih =>
                intro h
                have h4 := ih (fun x hx => h x (by simp [hx]))
                have h5 := h k (by simp)
                rw [List.map_cons, List.sum_cons, List.length_cons]
                omega
            exact h3 _ (fun k hk => (HSh.out.one k hk).1)
          omega
        clear hkn hkl
        go_wp2_with fail
        refine (pins_any X8 B Mp Mc Mn cap st.la st.la st.pins all' nw HA8.out).mono ?_
        rintro e X9 ⟨pvl, d2, rfl, _, hd2, hrow, hb9⟩
        have hd2l : d2.length = st.pins.length := by have := hd2.length_eq; simpa using this
        obtain ⟨qa, qc, rfl⟩ : ∃ qa qc, pvl = .slice qa st.pins.length qc := by
          rw [← hd2l]
          obtain ⟨_, ⟨rfl, h0⟩ | ⟨g, cp, cur, rfl, _⟩⟩ := hrow
          · exact ⟨none, 0, by rw [h0]⟩
          · exact ⟨_, _, rfl⟩
        have HA9 := hidC (HA8.out.kept hb9)
        have HB9 := hidC (HB8.out.trans (hb9.mono HB8.out.size))
        have HKa9 : Hid (∀ W, Below X9.heap.size X9 W → KeysAt W ka (sortK nw)) := fun W hW => HKa.out W (hb9.trans (hW.mono hb9.size))
        clear hd2 hrow hb9 hd2l HA8 HB8 HKa
        obtain ⟨pl, hpl2⟩ : ∃ pl, pl = st.pins.length := ⟨_, rfl⟩
        have HPl := hidC hpl2
        rw [← hpl2] at hpl ⊢
        clear hpl2
        go_wp2_with fail
        go_loopw [13, 14, 15] (fun x y _ wr => ∃ (i q : Nat), i ≤ kn ∧ q ≤ 65536 ∧ x = .int .i64 (q : Int) ∧ y = .int .i64 (i : Int) ∧ Hid (q = (((sortK nw).take i).map (fun k => (ofV k all').length)).sum) ∧ Hid (Below X9.heap.size X9 wr)) (fun _ y _ _ => kn - (intOf y).toNat)
        case atStart => exact ⟨0, 0, Nat.zero_le _, by omega, rfl, rfl, rfl, Below.refl _ _⟩
        case round =>
          obtain ⟨i2, q, hi2, hq, rfl, rfl, HQq, HBr⟩ := hrel
          have HAr := hidC (HA9.out.kept HBr.out)
          have HBwr := hidC (HB9.out.trans (HBr.out.mono HB9.out.size))
          by_cases hlt2 : i2 < kn
          · have hil : i2 < (sortK nw).length := by have := HKn.out; omega
            have hkd : kd (sortK nw) i2 = (sortK nw)[i2] := by have := kd_get hil; rw [List.getElem?_eq_getElem hil] at this; exact (Option.some.inj this).symm
            have hmem := List.getElem_mem hil
            obtain ⟨b, off, hka, hcells⟩ : ∃ b off, ka = some ⟨b, off, none⟩ ∧ ∀ j u, (cks (sortK nw))[j]? = some u → wr.cell? ⟨b, off + j, none⟩ = some u := by
              rcases HKa9.out wr HBr.out with h0 | h0
              · rw [h0] at hil; simp at hil
              · exact h0
            subst hka
            obtain ⟨e0, e1⟩ := KeysAt.at hcells i2 hil
            rw [hkd] at e0 e1
            have HVs := hidC (versions_any wr B Mp Mc Mn cap st.la st.la st.pins all' nw HAr.out (sortK nw)[i2] (HSh.out.kin _ hmem))
            have hone := HSh.out.one _ hmem
            have HSt := hidC (sum_take (f := fun k => (ofV k all').length) hil)
            have HLe : Hid ((((sortK nw).take (i2 + 1)).map (fun k => (ofV k all').length)).sum ≤ 65536) := by
              have h1 := HSh.out.total
              have h2 : ((sortK nw).map (fun k => (ofV k all').length)).sum = (((sortK nw).take (i2 + 1)).map (fun k => (ofV k all').length)).sum + (((sortK nw).drop (i2 + 1)).map (fun k => (ofV k all').length)).sum := by
                rw [← List.sum_append_nat, ← List.map_append, List.take_append_drop]
              show _ ≤ _
              omega
            rw [← HPl.out] at hone
            generalize (sortK nw)[i2] = kk at *
            obtain ⟨kk1, kk2⟩ := kk
            simp only at e0 e1
            clear hcells hkd hmem
            go_wp2_with fail
            refine HVs.out.mono ?_
            rintro e W8 ⟨vv, rfl, hov, hb8⟩
            obtain ⟨va, vm, vc, rfl, hvm⟩ : ∃ a m c, vv = .slice a m c ∧ m = (ofV (kk1, kk2) all').length := by
              have hl : (plk (ofV (kk1, kk2) all')).length = (ofV (kk1, kk2) all').length := by simp [plk]
              obtain ⟨_, ⟨rfl, h0⟩ | ⟨g, cp, cur, rfl, _⟩⟩ := hov
              · exact ⟨_, _, _, rfl, by omega⟩
              · exact ⟨_, _, _, rfl, hl⟩
            have HQ2 : Hid (q + vm = (((sortK nw).take (i2 + 1)).map (fun k => (ofV k all').length)).sum) := by rw [HSt.out, HQq.out, hvm]; rfl
            have hqv : q + vm ≤ 65536 := by rw [HQ2.out]; exact HLe.out
            rw [← hvm] at hone
            have HB8 : Hid (Below X9.heap.size X9 W8) := HBr.out.trans (hb8.mono HBr.out.size)
            have ho1 : decide ((vm : Int) < 1) = false := decide_eq_false (by omega)
            have ho2 : decide ((pl : Int) + 1 < (vm : Int)) = false := decide_eq_false (by omega)
            have ho3 : ¬ (vm : Int) < 1 := by omega
            have ho4 : ¬ (pl : Int) + 1 < (vm : Int) := by omega
            have hwp : IntKind.i64.wrap ((q : Int) + (vm : Int)) = (q : Int) + (vm : Int) := by rw [IntKind.wrap_i64]; omega
            have hwp2 : IntKind.i64.wrap ((pl : Int) + 1) = (pl : Int) + 1 := by rw [IntKind.wrap_i64]; omega
            clear hov hb8 hvm HVs HSt HLe HQq HBr HAr HBwr e0 e1
            go_wp2
            exact ⟨⟨i2 + 1, q + vm, by omega, hqv, by first | rfl | rw [Int.natCast_add], by go_num, HQ2.out, HB8.out⟩, by simp [intOf]; omega⟩
          · have hie : i2 = kn := by omega
            subst hie
            have hqe : q = all'.length := by
              have h1 := HQq.out
              rw [HKn.out, List.take_length, HSh.out.total] at h1
              exact h1
            have HCh := hidC (tail_ch HAr.out (x := (q : Int)) (by rw [hqe]))
            clear hqe HQq HKa9 HA9 HB9 HBr
            go_wp2_with fail
            refine HCh.out.mono ?_
            rintro e X10 ⟨rfl, hw10⟩
            have hw10' := hw10.symm
            subst hw10'
            clear hw10 HCh
            go_wp2_with fail
            refine (collect_any wr B Mp Mc Mn cap st.la st.la st.pins all' nw HAr.out).mono ?_
            rintro e X11 ⟨d3, all3, _, hd3, hcn3, rfl, hba, hf11⟩
            have he3 : all3 = all' := HCn.out.1.twice (hcn3.d (fun x => by rw [hd3.mem_iff, HCn.out.2.mem_iff])) HSh.out.nd HSh.out.mem
            subst he3
            have HA11 := hidC hba
            have HB11 : Hid (Below w.heap.size w X11) := HBwr.out.trans (hf11.below HBwr.out.size HSb.out)
            rw [show ((all3.length : Int) - (all3.length : Int)) = 0 by omega]
            have HRm : Hid ((all3.length : Int) ≤ (i2 : Int) * ((pl : Int) + 1)) := by
              have h1 := HSh.out.room
              rw [← HKl.out, ← HKn.out, ← HPl.out] at h1
              have h2 : ((i2 * (pl + 1) : Nat) : Int) = (i2 : Int) * ((pl : Int) + 1) := by simp
              rw [← h2]
              show _ ≤ _
              omega
            have HFl := hidC (floor_any X11 B Mp Mc Mn cap st.la st.la st.pins all3 nw hba)
            have HLa := hidC (latest_any X11 B Mp Mc Mn cap st.la st.la st.pins all3 nw hba)
            have HCa : Hid (∀ W, Below X11.heap.size X11 W → Calls Try.prog 26 #[ptr B] W fun e w' => e = .returned (.int .i64 cap) ∧ w' = W) := fun W hW => capacity_any W B Mp Mc Mn cap st.la st.la st.pins all3 nw (HA11.out.kept hW)
            have HLt : Hid (∀ W, Below X11.heap.size X11 W → Calls Try.prog 18 #[ptr B] W fun e w' => e = .returned (.int .i64 st.la) ∧ w' = W) := fun W hW => latest_any W B Mp Mc Mn cap st.la st.la st.pins all3 nw (HA11.out.kept hW)
            have HOw : Hid (L.length ≤ 100000 ∧ ∀ s ∈ L, s.length ≤ 100000) := by
              have h1 := HPo.out.2.2.2.2 ow (by simp)
              rw [HN.out.2.2] at h1
              exact h1
            have hwl : wn ≤ 100000 := by rw [HN.out.2.1]; exact HOw.out.1
            obtain ⟨lat, hlat⟩ : ∃ lat, lat = st.la := ⟨_, rfl⟩
            have HLat := hidC hlat
            rw [← hlat] at HFl HLa HLt
            clear hlat hba hf11 hcn3 hd3 HAr HBwr HSh HCn
            go_wp2_with fail
            refine HFl.out.mono ?_
            rintro e X12 ⟨rfl, hw12⟩
            have hw12' := hw12.symm
            subst hw12'
            clear hw12 HFl
            go_wp2_with fail
            refine HLa.out.mono ?_
            rintro e X13 ⟨rfl, hw13⟩
            have hw13' := hw13.symm
            subst hw13'
            clear hw13 HLa
            go_wp2_with fail
            refine (weightL_any _ X11 wa wn wc L HN.out.2.1 (HL.out X11 HB11.out) (fun s hs => Nat.le_trans (HOw.out.2 s hs) (by omega)) (by omega)).mono ?_
            rintro e X14 ⟨rfl, hb14⟩
            have HB14 := hidC hb14
            obtain ⟨we, hwe⟩ : ∃ we, we = wgtE L := ⟨_, rfl⟩
            have hwe3 : we ≤ 1024 := by
              by_cases hF : formN L = 0
              · have hk := formN_ok hF
                have h1 := wgt_le hk.1 (fun s hs => (hk.2 s hs).1)
                rw [hwe, wgtE_ok hF]
                omega
              · rw [hwe, wgtE_bad rfl hF]; omega
            have HWe := hidC hwe
            rw [← hwe]
            clear hb14 hwe
            obtain ⟨M, hM⟩ : ∃ M : Int, M = (i2 : Int) * ((pl : Int) + 1) := ⟨_, rfl⟩
            have hM1 : 0 ≤ M ∧ M ≤ 2162688 := by
              have h1 : i2 * (pl + 1) ≤ 65536 * 33 := Nat.mul_le_mul hkn2 (by omega)
              have h2 : ((i2 * (pl + 1) : Nat) : Int) = M := by rw [hM]; simp
              omega
            have hwpM : IntKind.i64.wrap ((i2 : Int) * ((pl : Int) + 1)) = M := by rw [← hM, IntKind.wrap_i64]; omega
            have hwp2 : IntKind.i64.wrap ((pl : Int) + 1) = (pl : Int) + 1 := by rw [IntKind.wrap_i64]; omega
            have HRm2 : Hid ((all3.length : Int) ≤ M) := by rw [hM]; exact HRm.out
            have HMm := hidC hM
            have hwpS : -9000 ≤ we → IntKind.i64.wrap (M + we) = M + we := fun h => by rw [IntKind.wrap_i64]; omega
            clear hM HRm
            by_cases hw0 : 0 ≤ we
            · have hw0b : decide (0 ≤ we) = true := decide_eq_true hw0
              have hwpT := hwpS (by omega)
              by_cases hfit : M + we ≤ cap
              · have hfb : decide (M + we ≤ cap) = true := decide_eq_true hfit
                go_wp2_with fail
                refine (HCa.out X14 HB14.out).mono ?_
                rintro e X20 ⟨rfl, hw20⟩
                have hw20' := hw20.symm
                subst hw20'
                clear hw20
                go_wp2_with fail
                refine (HLt.out X14 HB14.out).mono ?_
                rintro e X15 ⟨rfl, hw15⟩
                have hw15' := hw15.symm
                subst hw15'
                clear hw15
                go_wp2_with fail
                refine (lentW_any _ X14 wa wn wc L HN.out.2.1 (HL.out X14 (HB11.out.trans (HB14.out.mono HB11.out.size))) (by omega) HOw.out.2).mono ?_
                rintro e X16 ⟨la16, lc16, rfl, hr16, hb16⟩
                have HA16 := hidC ((HA11.out.kept HB14.out).kept hb16)
                have HR16 : Hid (RWs (SB B Mp Mc Mn) X16 la16 L) := hr16.weak (fun k hk => (HA11.out.kept HB14.out).lt hk)
                have HB16 : Hid (Below w.heap.size w X16) := by
                  have h1 := HB11.out.trans (HB14.out.mono HB11.out.size)
                  exact h1.trans (hb16.mono h1.size)
                clear hr16 hb16
                go_wp2_with fail
                refine (admit_any X16 B Mp Mc Mn cap st.la st.la st.pins all3 nw HA16.out la16 wn lc16 L HN.out.2.1 HR16.out HIn.out.2.1 (fun s hs => Nat.le_trans (HOw.out.2 s hs) (by omega)) (by omega)).mono ?_
                rintro e X17 (⟨hne, rfl, hb17⟩ | ⟨heq, rfl, _, hf17⟩)
                · have HX : Hid (ShPost w (.returned (.bool true)) X17) := ⟨rfl, HB16.out.trans (hb17.mono HB16.out.size)⟩
                  have hlt : lat = 1099511627776 := by
                    rw [HLat.out]
                    refine Classical.byContradiction (fun hl => hne ?_)
                    refine adm_fits (m := i2) (p := pl) (by rw [← HWe.out]; exact hw0) (by rw [← HMm.out]; exact HRm2.out) (by rw [← HMm.out, ← HWe.out]; exact hfit) hl
                  generalize admE cap st.la all3 L = E at *
                  have hEb : (E == 0) = false := by simpa using hne
                  have hlb : (lat == 1099511627776) = true := by simp [hlt]
                  clear hb17
                  go_wp2_with fail
                  refine (numB_any X17 E).mono ?_
                  rintro e X18 ⟨rfl, hw18⟩
                  have hw18' := hw18.symm
                  subst hw18'
                  go_wp2
                  go_ret
                  exact HX.out
                · have HX : Hid (ShPost w (.returned (.bool true)) X17) := ⟨rfl, HB16.out.trans (hf17.below HB16.out.size HSb.out)⟩
                  clear hf17 heq
                  go_wp2_with fail
                  refine (numB_any X17 0).mono ?_
                  rintro e X18 ⟨rfl, hw18⟩
                  have hw18' := hw18.symm
                  subst hw18'
                  go_wp2
                  go_ret
                  exact HX.out
              · have hfb : decide (M + we ≤ cap) = false := decide_eq_false hfit
                go_wp2_with fail
                refine (HCa.out X14 HB14.out).mono ?_
                rintro e X20 ⟨rfl, hw20⟩
                have hw20' := hw20.symm
                subst hw20'
                clear hw20
                go_wp2_with fail
                refine (HLt.out X14 HB14.out).mono ?_
                rintro e X15 ⟨rfl, hw15⟩
                have hw15' := hw15.symm
                subst hw15'
                clear hw15
                go_wp2_with fail
                refine (lentW_any _ X14 wa wn wc L HN.out.2.1 (HL.out X14 (HB11.out.trans (HB14.out.mono HB11.out.size))) (by omega) HOw.out.2).mono ?_
                rintro e X16 ⟨la16, lc16, rfl, hr16, hb16⟩
                have HA16 := hidC ((HA11.out.kept HB14.out).kept hb16)
                have HR16 : Hid (RWs (SB B Mp Mc Mn) X16 la16 L) := hr16.weak (fun k hk => (HA11.out.kept HB14.out).lt hk)
                have HB16 : Hid (Below w.heap.size w X16) := by
                  have h1 := HB11.out.trans (HB14.out.mono HB11.out.size)
                  exact h1.trans (hb16.mono h1.size)
                clear hr16 hb16
                go_wp2_with fail
                refine (admit_any X16 B Mp Mc Mn cap st.la st.la st.pins all3 nw HA16.out la16 wn lc16 L HN.out.2.1 HR16.out HIn.out.2.1 (fun s hs => Nat.le_trans (HOw.out.2 s hs) (by omega)) (by omega)).mono ?_
                rintro e X17 (⟨hne, rfl, hb17⟩ | ⟨heq, rfl, _, hf17⟩)
                · have HX : Hid (ShPost w (.returned (.bool true)) X17) := ⟨rfl, HB16.out.trans (hb17.mono HB16.out.size)⟩
                  generalize admE cap st.la all3 L = E at *
                  clear hb17
                  go_wp2
                  go_ret
                  exact HX.out
                · have HX : Hid (ShPost w (.returned (.bool true)) X17) := ⟨rfl, HB16.out.trans (hf17.below HB16.out.size HSb.out)⟩
                  clear hf17 heq
                  go_wp2
                  go_ret
                  exact HX.out
            · have hw0b : decide (0 ≤ we) = false := decide_eq_false hw0
              go_wp2_with fail
              refine (HLt.out X14 HB14.out).mono ?_
              rintro e X15 ⟨rfl, hw15⟩
              have hw15' := hw15.symm
              subst hw15'
              clear hw15
              go_wp2_with fail
              refine (lentW_any _ X14 wa wn wc L HN.out.2.1 (HL.out X14 (HB11.out.trans (HB14.out.mono HB11.out.size))) (by omega) HOw.out.2).mono ?_
              rintro e X16 ⟨la16, lc16, rfl, hr16, hb16⟩
              have HA16 := hidC ((HA11.out.kept HB14.out).kept hb16)
              have HR16 : Hid (RWs (SB B Mp Mc Mn) X16 la16 L) := hr16.weak (fun k hk => (HA11.out.kept HB14.out).lt hk)
              have HB16 : Hid (Below w.heap.size w X16) := by
                have h1 := HB11.out.trans (HB14.out.mono HB11.out.size)
                exact h1.trans (hb16.mono h1.size)
              clear hr16 hb16
              go_wp2_with fail
              refine (admit_any X16 B Mp Mc Mn cap st.la st.la st.pins all3 nw HA16.out la16 wn lc16 L HN.out.2.1 HR16.out HIn.out.2.1 (fun s hs => Nat.le_trans (HOw.out.2 s hs) (by omega)) (by omega)).mono ?_
              rintro e X17 (⟨hne, rfl, hb17⟩ | ⟨heq, rfl, _, hf17⟩)
              · have HX : Hid (ShPost w (.returned (.bool true)) X17) := ⟨rfl, HB16.out.trans (hb17.mono HB16.out.size)⟩
                generalize admE cap st.la all3 L = E at *
                clear hb17
                go_wp2
                go_ret
                exact HX.out
              · have HX : Hid (ShPost w (.returned (.bool true)) X17) := ⟨rfl, HB16.out.trans (hf17.below HB16.out.size HSb.out)⟩
                clear hf17 heq
                go_wp2
                go_ret
                exact HX.out
  )
end Go.Proofs.Ytibdogniiglcjab
/-
  FROM THE READING OF A []api.Key ARGUMENT (OR FIELD) TO ITS KEYS.
-/
namespace Go.Proofs.Ytibdogniiglcjab
open Go.ChangeShapes Go.WideShapes Go.ChangeAt Go.RowKit

theorem cellsKey : Try.prog.cellsOf 38 = 2 := by kernel_rfl
theorem cellsInt' : Try.prog.cellsOf 3 = 1 := by kernel_rfl
theorem cellsInt64' : Try.prog.cellsOf 2 = 1 := by kernel_rfl
theorem bytesKey : Try.prog.bytesOf 38 = 16 := by kernel_rfl
set_option maxRecDepth 100000 in
/-- one element -/
theorem key_of_trod {H : Type} {enc : TypeId × Value → H} {W : World} {fuel : Nat} {a : Addr} {i : Nat} {cs : List Value} {y : DataW H × List MemPlace} (hc : W.cells? 0 (a.add (i * 2)) 2 = some cs)
    (hf : DataW.trod enc Try.prog W 0 (fun _ => true) true fuel 38 cs = some y) :
    ∃ (b off : Nat) (k : K), a.add (i * 2) = ⟨b, off, none⟩ ∧ W.cell? ⟨b, off, none⟩ = some (.int .i64 k.1) ∧ W.cell? ⟨b, off + 1, none⟩ = some (.int .i64 k.2) ∧ In64 k.1 ∧ In64 k.2 := by
  obtain ⟨_, hlen, hcell⟩ := World.cells?_some hc
  obtain ⟨xs, k, hk, hxy, _, hxl, hf⟩ := DataW.trod_struct Try.underlying38 hf
  match xs, hxl, cs, hlen with
  | [y0, y1], _, [v0, v1], _ =>
    have g0 := hf 0 _ rfl
    have g1 := hf 1 _ rfl
    simp [cellsInt', cellsInt64'] at g0 g1
    have e0 := hcell 0 (by omega)
    have e1 := hcell 1 (by omega)
    generalize a.add (i * 2) = ad at *
    obtain ⟨b, off, spot⟩ := ad
    have hspot : spot = none := by
      have h1 : (⟨b, off, spot⟩ : Addr).add 0 = ⟨b, off, spot⟩ := by simp [Addr.add]
      rw [h1] at e0
      exact World.cell?_spot e0
    subst hspot
    rw [Go.WideShapes.add_plain] at e0 e1
    obtain ⟨x0, h0, _, wx0⟩ := DataW.trod_int Try.underlying3 g0
    obtain ⟨x1, h1, _, wx1⟩ := DataW.trod_int Try.underlying2 g1
    simp only [List.cons.injEq, and_true] at h0 h1
    subst h0 h1
    exact ⟨b, off, (x0, x1), rfl, by simpa using e0, by simpa using e1, bounds_i64 wx0, bounds_i64 wx1⟩
theorem cks_of {w : World} {b off : Nat} : ∀ (L : List K) (d : Nat), (∀ i, i < L.length → w.cell? ⟨b, off + (d + i) * 2, none⟩ = some (.int .i64 (kd L i).1) ∧ w.cell? ⟨b, off + (d + i) * 2 + 1, none⟩ = some (.int .i64 (kd L i).2)) →
    ∀ j u, (cks L)[j]? = some u → w.cell? ⟨b, off + d * 2 + j, none⟩ = some u
  | [], _, _, j, u, hu => by simp [cks] at hu
  | k :: L, d, h, 0, u, hu => by
    have := (h 0 (by simp)).1
    simp [cks] at hu
    simpa [kd, hu] using this
  | k :: L, d, h, 1, u, hu => by
    have := (h 0 (by simp)).2
    simp [cks] at hu
    simpa [kd, hu] using this
  | k :: L, d, h, j + 2, u, hu => by
    have ih := cks_of (w := w) (b := b) (off := off) L (d + 1) (fun i hi => by
      have := h (i + 1) (by simp; omega)
      rw [kd_cons_succ, show d + (i + 1) = d + 1 + i by omega] at this
      exact this) j u (by simpa [cks] using hu)
    rw [show off + (d + 1) * 2 + j = off + d * 2 + (j + 2) by omega] at ih
    exact ih
set_option maxRecDepth 100000 in
/-- what the reading of a slice of keys gives -/
theorem keys_of_trod {H : Type} {enc : TypeId × Value → H} {W : World} {fuel : Nat} {cs : List Value} {y : DataW H × List MemPlace}
    (hf : DataW.trod enc Try.prog W 0 (fun _ => true) true fuel 60 cs = some y) :
    ∃ (a : Option Addr) (len cap : Nat) (ks : List K), cs = [.slice a len cap] ∧ (len = ks.length ∧ KeysAt W a ks ∧ (a = none → cap = 0) ∧ len ≤ cap ∧ cap ≤ maxLen ∧ ∀ k ∈ ks, In64 k.1 ∧ In64 k.2) ∧
      (len = 0 ∨ ∃ elems spare, y.1 = .slice elems spare ∧ len ≤ elems.length + spare.length) := by
  rcases Deep.open_slice Try.underlying60 hf with ⟨rfl, rfl⟩ | ⟨a, len, cap, m, n, D, Pl, rfl, hb, hl, hm, hmm, rfl, hx⟩
  · exact ⟨none, 0, 0, [], rfl, ⟨rfl, .inl rfl, fun _ => rfl, Nat.le_refl _, Nat.zero_le _, by simp⟩, .inl rfl⟩
  · have hle : len ≤ m := by rw [hmm]; simpa using hl
    rw [cellsKey] at hx
    obtain ⟨Z, hZ⟩ := Deep.choose_lt (α := K) (n := len) (p := fun i k => ∃ b off, a.add (i * 2) = ⟨b, off, none⟩ ∧ W.cell? ⟨b, off, none⟩ = some (.int .i64 k.1) ∧ W.cell? ⟨b, off + 1, none⟩ = some (.int .i64 k.2) ∧ In64 k.1 ∧ In64 k.2) (fun i hi => by
      obtain ⟨cs', h1, h2⟩ := hx i (by omega)
      obtain ⟨b, off, k, h3⟩ := key_of_trod h1 h2
      exact ⟨k, b, off, h3⟩)
    refine ⟨some a, len, cap, (List.range len).map Z, rfl, ⟨by simp, ?_, by simp, by simpa using hl, hm, ?_⟩, .inr ⟨_, _, rfl, ?_⟩⟩
    · by_cases h0 : len = 0
      · left; subst h0; rfl
      · right
        obtain ⟨b, off, h1, _⟩ := hZ 0 (by omega)
        have h1' : a = ⟨b, off, none⟩ := by simpa [Addr.add] using h1
        subst h1'
        refine ⟨b, off, rfl, fun j u hu => ?_⟩
        have := cks_of (w := W) (b := b) (off := off) ((List.range len).map Z) 0 (fun i hi => by
          have hi' : i < len := by simpa using hi
          obtain ⟨b', off', h2, h3, h4, _⟩ := hZ i hi'
          rw [Go.WideShapes.add_plain] at h2
          simp only [Addr.mk.injEq, and_true] at h2
          obtain ⟨rfl, rfl⟩ := h2
          have e : kd ((List.range len).map Z) i = Z i := by simp [kd, List.getD_eq_getElem?_getD, hi']
          rw [e, Nat.zero_add]
          exact ⟨h3, h4⟩) j u hu
        simpa using this
    · intro k hk
      obtain ⟨i, hi, rfl⟩ := List.mem_map.1 hk
      obtain ⟨_, _, _, _, _, h5⟩ := hZ i (by simpa using hi)
      exact h5
    · simp
theorem keys_of_sized {H : Type} {ts : List TypeId} {ds : List (DataW H)} {j len : Nat} {d : DataW H} (h : (DataW.weightsEach Try.prog ts ds).all (· ≤ reachBytes) = true) (ht : ts[j]? = some 60) (hd : ds[j]? = some d)
    (hx : len = 0 ∨ ∃ elems spare, d = .slice elems spare ∧ len ≤ elems.length + spare.length) : len * 16 ≤ 140737488351232 := by
  rcases hx with h0 | ⟨elems, spare, rfl, hl⟩
  · omega
  · have h1 := sized_slice h ht hd Try.underlying60
    rw [bytesKey] at h1
    simp only [reachBytes] at h1
    omega

end Go.Proofs.Ytibdogniiglcjab
/-
  FROM THE READING OF A []preludelaw10.Op ARGUMENT TO ITS CALLS.
-/
namespace Go.Proofs.Ytibdogniiglcjab
open Go.ChangeShapes Go.WideShapes Go.ChangeAt Go.RowKit

theorem cellsSKb : Try.prog.cellsOf 60 = 1 := by kernel_rfl
theorem cellsSSKb : Try.prog.cellsOf 36 = 1 := by kernel_rfl
theorem bytesSKb : Try.prog.bytesOf 60 = 24 := by kernel_rfl
theorem cellsOpb : Try.prog.cellsOf 40 = 5 := by kernel_rfl
theorem bytesOpb : Try.prog.bytesOf 40 = 56 := by kernel_rfl
theorem cell_ltb {W : World} {b o : Nat} {v : Value} (h : W.cell? ⟨b, o, none⟩ = some v) : b < W.heap.size := by
  by_cases hb : b < W.heap.size
  · exact hb
  · have : W.heap[b]? = none := by simp; omega
    simp [World.cell?, this] at h
theorem wAll_mem {H : Type} {P : Program} {e : TypeId} : ∀ {ds : List (DataW H)} {d : DataW H}, d ∈ ds → ∀ z ∈ d.weights P e, z ∈ DataW.weightsAll P e ds
  | d0 :: ds, d, hd, z, hz => by
    simp only [DataW.weightsAll, List.mem_append]
    rcases List.mem_cons.1 hd with rfl | h
    · exact .inl hz
    · exact .inr (wAll_mem h z hz)
set_option maxRecDepth 100000 in
theorem lists_of_trod {H : Type} {enc : TypeId × Value → H} {W : World} {fuel : Nat} {cs : List Value} {y : DataW H × List MemPlace}
    (hf : DataW.trod enc Try.prog W 0 (fun _ => true) true fuel 36 cs = some y) :
    ∃ (a : Option Addr) (len cap : Nat) (L : List (List K)), cs = [.slice a len cap] ∧ len = L.length ∧ (∀ s ∈ L, ∀ k ∈ s, KIn k) ∧ RWs (fun k => W.heap.size ≤ k) W a L ∧
      ((∀ z ∈ y.1.weights Try.prog 36, z ≤ reachBytes) → len * 24 ≤ reachBytes ∧ ∀ s ∈ L, s.length * 16 ≤ reachBytes) := by
  rcases Deep.open_slice Try.underlying36 hf with ⟨rfl, rfl⟩ | ⟨a, len, cap, m, n, D, Pl, rfl, hb, hl, hm, hmm, rfl, hx⟩
  · exact ⟨none, 0, 0, [], rfl, rfl, by simp, fun i hi => by simp at hi, fun _ => ⟨by simp, by simp⟩⟩
  · have hle : len ≤ m := by rw [hmm]; simpa using hl
    rw [cellsSKb] at hx
    obtain ⟨Z, hZ⟩ := Deep.choose_lt (α := List K × Option Addr × Nat) (n := len) (p := fun i x => ∃ b off, a.add (i * 1) = ⟨b, off, none⟩ ∧ W.cell? ⟨b, off, none⟩ = some (.slice x.2.1 x.1.length x.2.2) ∧ KeysAt W x.2.1 x.1 ∧ (∀ k ∈ x.1, KIn k) ∧ ((∀ z ∈ (D i).weights Try.prog 60, z ≤ reachBytes) → x.1.length * 16 ≤ reachBytes)) (fun i hi => by
      obtain ⟨cs', h1, h2⟩ := hx i (by omega)
      obtain ⟨_, hlen, hcell⟩ := World.cells?_some h1
      obtain ⟨sa, sn, sc, ks, rfl, ⟨rfl, hat, _, _, _, hin⟩, hz⟩ := keys_of_trod h2
      have e0 := hcell 0 (by simp)
      generalize a.add (i * 1) = ad at *
      obtain ⟨b, off, spot⟩ := ad
      have hspot : spot = none := by
        have h1 : (⟨b, off, spot⟩ : Addr).add 0 = ⟨b, off, spot⟩ := by simp [Addr.add]
        rw [h1] at e0
        exact World.cell?_spot e0
      subst hspot
      rw [Go.WideShapes.add_plain] at e0
      refine ⟨(ks, sa, sc), b, off, rfl, by simpa using e0, hat, fun k hk => hin k hk, fun hw => ?_⟩
      rcases hz with h0 | ⟨elems, spare, e, hle⟩
      · show ks.length * 16 ≤ _
        rw [h0]
        simp
      · have z2 := hw ((elems.length + spare.length) * 16) (by
          have e' : D i = .slice elems spare := e
          rw [e']
          simp [DataW.weights, Try.underlying60, bytesKey])
        show ks.length * 16 ≤ _
        omega)
    have hget : ∀ i (hi : i < ((List.range len).map fun i => (Z i).1).length), i < len ∧ ((List.range len).map fun i => (Z i).1)[i] = (Z i).1 := fun i hi => ⟨by simpa using hi, by simp⟩
    refine ⟨some a, len, cap, (List.range len).map (fun i => (Z i).1), rfl, by simp, fun s hs => ?_, fun i hi => ?_, fun hz => ⟨?_, fun s hs => ?_⟩⟩
    · obtain ⟨i, hi, rfl⟩ := List.mem_map.1 hs
      obtain ⟨_, _, _, _, _, h5, _⟩ := hZ i (by simpa using hi)
      exact h5
    · obtain ⟨hi', e⟩ := hget i hi
      rw [e]
      obtain ⟨b, off, h1, _⟩ := hZ 0 (by omega)
      have h1' : a = ⟨b, off, none⟩ := by simpa [Addr.add] using h1
      subst h1'
      obtain ⟨b', off', h2, h3, h4, _⟩ := hZ i hi'
      rw [Go.WideShapes.add_plain, Nat.mul_one] at h2
      simp only [Addr.mk.injEq, and_true] at h2
      obtain ⟨rfl, rfl⟩ := h2
      have hlt := cell_ltb h3
      refine ⟨b, off, (Z i).2.1, (Z i).2.2, rfl, by omega, hlt, h3, h4, fun ad hne hsa => ?_⟩
      rcases h4 with h0 | ⟨kb, ko, e2, hc⟩
      · exact absurd h0 hne
      · rw [hsa] at e2
        cases e2
        obtain ⟨k, l, hkl⟩ : ∃ k l, (Z i).1 = k :: l := by
          cases hz : (Z i).1 with
          | nil => exact absurd hz hne
          | cons k l => exact ⟨k, l, rfl⟩
        have := hc 0 (.int .i64 k.1) (by rw [hkl]; simp [cks])
        have := cell_ltb this
        exact ⟨by show ¬ W.heap.size ≤ kb; omega, this⟩
    · simp only [DataW.weights, Try.underlying36, bytesSKb, List.mem_cons, List.mem_append] at hz
      have := hz _ (.inl rfl)
      simp at this
      omega
    · obtain ⟨i, hi, rfl⟩ := List.mem_map.1 hs
      have hi' : i < len := by simpa using hi
      obtain ⟨_, _, _, _, _, _, h6⟩ := hZ i hi'
      simp only [DataW.weights, Try.underlying36, bytesSKb, List.mem_cons, List.mem_append] at hz
      exact h6 (fun z hzz => hz z (.inr (.inl (wAll_mem (ds := (List.range len).map D) (List.mem_map.2 ⟨i, by simpa using hi', rfl⟩) z hzz))))
def SizedO {H : Type} (d : DataW H) : Prop := ∀ z ∈ d.weights Try.prog 40, z ≤ reachBytes
def OcB (o : Oc) : Prop := o.L.length * 24 ≤ reachBytes ∧ ∀ s ∈ o.L, s.length * 16 ≤ reachBytes
def OcI (o : Oc) : Prop := (∀ s ∈ o.L, ∀ k ∈ s, KIn k) ∧ In64 o.m ∧ In64 o.kind ∧ KIn o.k
set_option maxRecDepth 100000 in
theorem op_of_trod {H : Type} {enc : TypeId × Value → H} {W : World} {fuel : Nat} {a : Addr} {i : Nat} {cs : List Value} {y : DataW H × List MemPlace} (hc : W.cells? 0 (a.add (i * 5)) 5 = some cs)
    (hf : DataW.trod enc Try.prog W 0 (fun _ => true) true fuel 40 cs = some y) :
    ∃ (b off : Nat) (o : Oc), a.add (i * 5) = ⟨b, off, none⟩ ∧ (W.cell? ⟨b, off, none⟩ = some (.int .i64 o.kind) ∧ W.cell? ⟨b, off + 1, none⟩ = some (.slice o.a o.L.length o.c) ∧ W.cell? ⟨b, off + 2, none⟩ = some (.int .i64 o.m) ∧ W.cell? ⟨b, off + 3, none⟩ = some (.int .i64 o.k.1) ∧ W.cell? ⟨b, off + 4, none⟩ = some (.int .i64 o.k.2)) ∧
      RWs (fun k => W.heap.size ≤ k) W o.a o.L ∧ OcI o ∧ (SizedO y.1 → OcB o) := by
  obtain ⟨_, hlen, hcell⟩ := World.cells?_some hc
  obtain ⟨xs, k, hk, rfl, _, hxl, hf⟩ := DataW.trod_struct Try.underlying40 hf
  match xs, hxl, cs, hlen with
  | [y0, y1, y2, y3], _, [v0, v1, v2, v3, v4], _ =>
    have g0 := hf 0 _ rfl
    have g1 := hf 1 _ rfl
    have g2 := hf 2 _ rfl
    have g3 := hf 3 _ rfl
    simp [cellsInt', cellsSSKb, cellsKey] at g0 g1 g2 g3
    generalize a.add (i * 5) = ad at *
    obtain ⟨b, off, spot⟩ := ad
    have hspot : spot = none := by
      have e0 := hcell 0 (by omega)
      have h1 : (⟨b, off, spot⟩ : Addr).add 0 = ⟨b, off, spot⟩ := by simp [Addr.add]
      rw [h1] at e0
      exact World.cell?_spot e0
    subst hspot
    obtain ⟨x0, h0, _, wx0⟩ := DataW.trod_int Try.underlying3 g0
    obtain ⟨wa, wn, wc, L, hW, hl, hin, hrw, hz⟩ := lists_of_trod g1
    obtain ⟨x2, h2, _, wx2⟩ := DataW.trod_int Try.underlying3 g2
    obtain ⟨zs, k', hk', _, _, hzl, hf3⟩ := DataW.trod_struct Try.underlying38 g3
    match zs, hzl with
    | [z0, z1], _ =>
      have f0 := hf3 0 _ rfl
      have f1 := hf3 1 _ rfl
      simp [cellsInt', cellsInt64'] at f0 f1
      obtain ⟨x3, h3, _, wx3⟩ := DataW.trod_int Try.underlying3 f0
      obtain ⟨x4, h4, _, wx4⟩ := DataW.trod_int Try.underlying2 f1
      simp only [List.cons.injEq, and_true] at h0 hW h2 h3 h4
      subst h0 hW h2 h3 h4 hl
      have e : ∀ j u, ([.int .i64 x0, .slice wa L.length wc, .int .i64 x2, .int .i64 x3, .int .i64 x4] : List Value)[j]? = some u → W.cell? ⟨b, off + j, none⟩ = some u := fun j u hu => by
        have hj : j < 5 := (List.getElem?_eq_some_iff.1 hu).1
        have := hcell j hj
        rw [Go.WideShapes.add_plain] at this
        rw [this]
        exact hu
      refine ⟨b, off, ⟨x0, wa, wc, L, x2, (x3, x4)⟩, rfl, ⟨e 0 _ rfl, e 1 _ rfl, e 2 _ rfl, e 3 _ rfl, e 4 _ rfl⟩, hrw, ⟨hin, bounds_i64 wx2, bounds_i64 wx0, bounds_i64 wx3, bounds_i64 wx4⟩, fun hs => ?_⟩
      refine hz (fun z hzz => hs z ?_)
      simp only [DataW.weights, Try.underlying40]
      exact DataW.weights_mem_each (j := 1) (t := 36) (d := y1.1) rfl rfl _ hzz
set_option maxRecDepth 100000 in
/-- what the reading of a script gives -/
theorem ops_of_trod {H : Type} {enc : TypeId × Value → H} {W : World} {fuel : Nat} {cs : List Value} {y : DataW H × List MemPlace}
    (hf : DataW.trod enc Try.prog W 0 (fun _ => true) true fuel 22 cs = some y) :
    ∃ (a : Option Addr) (len cap : Nat) (os : List Oc), cs = [.slice a len cap] ∧ len = os.length ∧ (∀ o ∈ os, OcI o) ∧
      ((∀ z ∈ y.1.weights Try.prog 22, z ≤ reachBytes) → OpsAt (fun k => W.heap.size ≤ k) W a os ∧ len * 56 ≤ reachBytes) := by
  rcases Deep.open_slice Try.underlying22 hf with ⟨rfl, rfl⟩ | ⟨a, len, cap, m, n, D, Pl, rfl, hb, hl, hm, hmm, rfl, hx⟩
  · exact ⟨none, 0, 0, [], rfl, rfl, by simp, fun _ => ⟨fun i hi => by simp at hi, by simp⟩⟩
  · have hle : len ≤ m := by rw [hmm]; simpa using hl
    have hI : Inhabited Oc := ⟨⟨0, none, 0, [], 0, (0, 0)⟩⟩
    rw [cellsOpb] at hx
    obtain ⟨Z, hZ⟩ := Deep.choose_lt (α := Oc) (n := len) (p := fun i o => ∃ b off, a.add (i * 5) = ⟨b, off, none⟩ ∧ (W.cell? ⟨b, off, none⟩ = some (.int .i64 o.kind) ∧ W.cell? ⟨b, off + 1, none⟩ = some (.slice o.a o.L.length o.c) ∧ W.cell? ⟨b, off + 2, none⟩ = some (.int .i64 o.m) ∧ W.cell? ⟨b, off + 3, none⟩ = some (.int .i64 o.k.1) ∧ W.cell? ⟨b, off + 4, none⟩ = some (.int .i64 o.k.2)) ∧ RWs (fun k => W.heap.size ≤ k) W o.a o.L ∧ OcI o ∧ (SizedO (D i) → OcB o)) (fun i hi => by
      obtain ⟨cs', h1, h2⟩ := hx i (by omega)
      obtain ⟨b, off, o, h3⟩ := op_of_trod h1 h2
      exact ⟨o, b, off, h3⟩)
    refine ⟨some a, len, cap, (List.range len).map Z, rfl, by simp, fun o ho => ?_, fun hz => ?_⟩
    · obtain ⟨i, hi, rfl⟩ := List.mem_map.1 ho
      obtain ⟨_, _, _, _, _, h5, _⟩ := hZ i (by simpa using hi)
      exact h5
    · simp only [DataW.weights, Try.underlying22, bytesOpb, List.mem_cons, List.mem_append] at hz
      refine ⟨fun i hi => ?_, ?_⟩
      · have hi' : i < len := by simpa using hi
        obtain ⟨b, off, h1, _⟩ := hZ 0 (by omega)
        have h1' : a = ⟨b, off, none⟩ := by simpa [Addr.add] using h1
        subst h1'
        obtain ⟨b', off', h2, ⟨d0, d1, d2, d3, d4⟩, h4, _, h6⟩ := hZ i hi'
        rw [Go.WideShapes.add_plain] at h2
        simp only [Addr.mk.injEq, and_true] at h2
        obtain ⟨rfl, rfl⟩ := h2
        have hB := h6 (fun z hzz => hz z (.inr (.inl (wAll_mem (ds := (List.range len).map D) (List.mem_map.2 ⟨i, by simpa using hi', rfl⟩) z hzz))))
        have e : ((List.range len).map Z)[i] = Z i := by simp
        rw [e]
        have hlt := cell_ltb d0
        unfold OcB at hB
        simp only [reachBytes] at hB
        exact ⟨b, off, rfl, by omega, hlt, d0, d1, d2, d3, d4, h4, by omega, fun s hs => by have := hB.2 s hs; omega⟩
      · have := hz _ (.inl rfl)
        simp at this
        omega
end Go.Proofs.Ytibdogniiglcjab
/-
  FROM THE READING OF A preludelaw10.Made ARGUMENT TO ITS SNAPSHOT.
-/
namespace Go.Proofs.Ytibdogniiglcjab
open Go.ChangeShapes Go.WideShapes Go.ChangeAt Go.RowKit

/-- the cells of a list of parts of one length -/
theorem flat_at {α : Type} (f : α → List Value) {sz : Nat} (hl : ∀ x, (f x).length = sz) : ∀ (xs : List α) (j : Nat) (u : Value), (xs.flatMap f)[j]? = some u → ∃ i m, ∃ hi : i < xs.length, j = i * sz + m ∧ m < sz ∧ (f xs[i])[m]? = some u
  | [], j, u, h => by simp at h
  | x :: xs, j, u, h => by
    rw [List.flatMap_cons] at h
    by_cases hj : j < sz
    · rw [List.getElem?_append_left (by rw [hl]; exact hj)] at h
      exact ⟨0, j, by simp, by omega, hj, by simpa using h⟩
    · rw [List.getElem?_append_right (by rw [hl]; omega), hl] at h
      obtain ⟨i, m, hi, e, hm, hu⟩ := flat_at f hl xs (j - sz) u h
      refine ⟨i + 1, m, by simp; omega, ?_, hm, by simpa using hu⟩
      rw [Nat.add_mul]
      omega
set_option maxRecDepth 100000 in
/-- a slice of parts -/
theorem slice_of_trod {H : Type} {enc : TypeId × Value → H} {W : World} {TS TE : TypeId} {sz bt : Nat} {α : Type} [Inhabited α] (f : α → List Value) (hl : ∀ x, (f x).length = sz) (h0 : 0 < sz) (P : α → Prop) (Q : α → Prop)
    (hu : Try.prog.underlying TS = some (.slice TE)) (hc : Try.prog.cellsOf TE = sz) (hbt : Try.prog.bytesOf TE = bt)
    (hel : ∀ fuel cs (y : DataW H × List MemPlace), cs.length = sz → DataW.trod enc Try.prog W 0 (fun _ => true) true fuel TE cs = some y → ∃ x, cs = f x ∧ P x ∧ ((∀ z ∈ y.1.weights Try.prog TE, z ≤ reachBytes) → Q x))
    {fuel : Nat} {cs : List Value} {y : DataW H × List MemPlace} (hf : DataW.trod enc Try.prog W 0 (fun _ => true) true fuel TS cs = some y) :
    ∃ (a : Option Addr) (len cap : Nat) (xs : List α), cs = [.slice a len cap] ∧ len = xs.length ∧ (a = none → cap = 0) ∧ CsAt W.heap.size W a (xs.flatMap f) ∧ (∀ x ∈ xs, P x) ∧
      ((∀ z ∈ y.1.weights Try.prog TS, z ≤ reachBytes) → len * bt ≤ reachBytes ∧ ∀ x ∈ xs, Q x) := by
  rcases Deep.open_slice hu hf with ⟨rfl, rfl⟩ | ⟨a, len, cap, m, n, D, Pl, rfl, hb, hle0, hm, hmm, rfl, hx⟩
  · exact ⟨none, 0, 0, [], rfl, rfl, fun _ => rfl, fun j u h => by simp at h, by simp, fun _ => ⟨by simp, by simp⟩⟩
  · have hle : len ≤ m := by rw [hmm]; simpa using hle0
    rw [hc] at hx
    obtain ⟨Z, hZ⟩ := Deep.choose_lt (α := α) (n := len) (p := fun i x => (∃ b off, a.add (i * sz) = ⟨b, off, none⟩ ∧ ∀ j u, (f x)[j]? = some u → W.cell? ⟨b, off + j, none⟩ = some u) ∧ P x ∧ ((∀ z ∈ (D i).weights Try.prog TE, z ≤ reachBytes) → Q x)) (fun i hi => by
      obtain ⟨cs', h1, h2⟩ := hx i (by omega)
      obtain ⟨_, hlen, hcell⟩ := World.cells?_some h1
      obtain ⟨x, rfl, hP, hQ⟩ := hel _ _ _ hlen h2
      refine ⟨x, ?_, hP, hQ⟩
      generalize a.add (i * sz) = ad at *
      obtain ⟨b, off, spot⟩ := ad
      have hspot : spot = none := by
        have e0 := hcell 0 h0
        have h1 : (⟨b, off, spot⟩ : Addr).add 0 = ⟨b, off, spot⟩ := by simp [Addr.add]
        rw [h1, List.getElem?_eq_getElem (by omega)] at e0
        exact World.cell?_spot e0
      subst hspot
      refine ⟨b, off, rfl, fun j u hu => ?_⟩
      have := hcell j (by rw [← hl x]; exact (List.getElem?_eq_some_iff.1 hu).1)
      rw [Go.WideShapes.add_plain] at this
      rw [this]
      exact hu)
    refine ⟨some a, len, cap, (List.range len).map Z, rfl, by simp, by simp, fun j u hju => ?_, fun x hxm => ?_, fun hz => ⟨?_, fun x hxm => ?_⟩⟩
    · obtain ⟨i, m', hi, rfl, hm', hfu⟩ := flat_at f hl _ _ _ hju
      have hi' : i < len := by simpa using hi
      have e : ((List.range len).map Z)[i] = Z i := by simp
      rw [e] at hfu
      obtain ⟨⟨b, off, h1, _⟩, _⟩ := hZ 0 (by omega)
      have h1' : a = ⟨b, off, none⟩ := by simpa [Addr.add] using h1
      subst h1'
      obtain ⟨⟨b', off', h2, h3⟩, _⟩ := hZ i hi'
      rw [Go.WideShapes.add_plain] at h2
      simp only [Addr.mk.injEq, and_true] at h2
      obtain ⟨rfl, rfl⟩ := h2
      have h4 := h3 _ _ hfu
      exact ⟨b, off, rfl, cell_ltb h4, by rw [← Nat.add_assoc]; exact h4⟩
    · obtain ⟨i, hi, rfl⟩ := List.mem_map.1 hxm
      exact (hZ i (by simpa using hi)).2.1
    · simp only [DataW.weights, hu, hbt, List.mem_cons, List.mem_append] at hz
      have h1 := hz _ (.inl rfl)
      simp only [List.length_map, List.length_range] at h1
      exact Nat.le_trans (Nat.mul_le_mul_right _ (by omega)) h1
    · obtain ⟨i, hi, rfl⟩ := List.mem_map.1 hxm
      have hi' : i < len := by simpa using hi
      simp only [DataW.weights, hu, hbt, List.mem_cons, List.mem_append] at hz
      exact (hZ i hi').2.2 (fun z hzz => hz z (.inr (.inl (wAll_mem (ds := (List.range len).map D) (List.mem_map.2 ⟨i, by simpa using hi', rfl⟩) z hzz))))
theorem cellsPin : Try.prog.cellsOf 72 = 2 := by kernel_rfl
theorem bytesPin : Try.prog.bytesOf 72 = 16 := by kernel_rfl
theorem cellsStamp : Try.prog.cellsOf 112 = 4 := by kernel_rfl
theorem bytesStamp : Try.prog.bytesOf 112 = 32 := by kernel_rfl
theorem cellsCell : Try.prog.cellsOf 110 = 2 := by kernel_rfl
theorem cellsBool' : Try.prog.cellsOf 4 = 1 := by kernel_rfl
theorem cellsChain : Try.prog.cellsOf 75 = 3 := by kernel_rfl
theorem bytesChain : Try.prog.bytesOf 75 = 40 := by kernel_rfl
theorem cellsSStamp : Try.prog.cellsOf 73 = 1 := by kernel_rfl
theorem cellsSPin : Try.prog.cellsOf 24 = 1 := by kernel_rfl
theorem cellsSChain : Try.prog.cellsOf 25 = 1 := by kernel_rfl
theorem cellsSnap : Try.prog.cellsOf 27 = 3 := by kernel_rfl
theorem cellsMade : Try.prog.cellsOf 29 = 5 := by kernel_rfl
def pnf (p : Int × Int) : List Value := [.int .i64 p.1, .int .i64 p.2]
def scf (x : Stp) : List Value := [.int .i64 x.b, .int .i64 x.i, .bool x.s, .int .i64 x.v]
def ccf (x : Ch) : List Value := [.int .i64 x.k.1, .int .i64 x.k.2, .slice x.a x.l.length x.c]
theorem pnf_flat : ∀ l : List (Int × Int), l.flatMap pnf = pns l
  | [] => rfl
  | x :: l => by simp [pnf, pns, pnf_flat l]
theorem scf_flat : ∀ l : List Stp, l.flatMap scf = scs l
  | [] => rfl
  | x :: l => by simp [scf, scs, scf_flat l]
theorem ccf_flat : ∀ l : List Ch, l.flatMap ccf = ccs l
  | [] => rfl
  | x :: l => by simp [ccf, ccs, ccf_flat l]
section
variable {H : Type} {enc : TypeId × Value → H} {W : World}
set_option maxRecDepth 100000 in
theorem pins_of_trod {fuel : Nat} {cs : List Value} {y : DataW H × List MemPlace} (hf : DataW.trod enc Try.prog W 0 (fun _ => true) true fuel 24 cs = some y) :
    ∃ (a : Option Addr) (len cap : Nat) (xs : List (Int × Int)), cs = [.slice a len cap] ∧ len = xs.length ∧ (a = none → cap = 0) ∧ CsAt W.heap.size W a (pns xs) ∧ (∀ x ∈ xs, In64 x.1 ∧ In64 x.2) ∧
      ((∀ z ∈ y.1.weights Try.prog 24, z ≤ reachBytes) → len * 16 ≤ reachBytes) := by
  obtain ⟨a, len, cap, xs, h1, h2, h3, h4, h5, h6⟩ := slice_of_trod pnf (sz := 2) (fun _ => rfl) (by omega) (fun x => In64 x.1 ∧ In64 x.2) (fun _ => True) Try.underlying24 cellsPin bytesPin (fun fuel cs y hl hf => by
    obtain ⟨ys, k, hk, hxy, _, hxl, hf⟩ := DataW.trod_struct Try.underlying72 hf
    match ys, hxl, cs, hl with
    | [y0, y1], _, [v0, v1], _ =>
      have g0 := hf 0 _ rfl
      have g1 := hf 1 _ rfl
      simp [cellsInt'] at g0 g1
      obtain ⟨x0, h0, _, wx0⟩ := DataW.trod_int Try.underlying3 g0
      obtain ⟨x1, h1, _, wx1⟩ := DataW.trod_int Try.underlying3 g1
      simp only [List.cons.injEq, and_true] at h0 h1
      subst h0 h1
      exact ⟨(x0, x1), rfl, ⟨bounds_i64 wx0, bounds_i64 wx1⟩, fun _ => trivial⟩) hf
  rw [pnf_flat] at h4
  exact ⟨a, len, cap, xs, h1, h2, h3, h4, h5, fun hz => (h6 hz).1⟩
set_option maxRecDepth 100000 in
theorem stamps_of_trod {fuel : Nat} {cs : List Value} {y : DataW H × List MemPlace} (hf : DataW.trod enc Try.prog W 0 (fun _ => true) true fuel 73 cs = some y) :
    ∃ (a : Option Addr) (len cap : Nat) (xs : List Stp), cs = [.slice a len cap] ∧ len = xs.length ∧ (a = none → cap = 0) ∧ CsAt W.heap.size W a (scs xs) ∧ (∀ x ∈ xs, In64 x.b ∧ In64 x.i) ∧
      ((∀ z ∈ y.1.weights Try.prog 73, z ≤ reachBytes) → len * 32 ≤ reachBytes) := by
  have hI : Inhabited Stp := ⟨⟨0, 0, false, 0⟩⟩
  obtain ⟨a, len, cap, xs, h1, h2, h3, h4, h5, h6⟩ := slice_of_trod scf (sz := 4) (fun _ => rfl) (by omega) (fun x => In64 x.b ∧ In64 x.i) (fun _ => True) Try.underlying73 cellsStamp bytesStamp (fun fuel cs y hl hf => by
    obtain ⟨ys, k, hk, hxy, _, hxl, hf⟩ := DataW.trod_struct Try.underlying112 hf
    match ys, hxl, cs, hl with
    | [y0, y1, y2], _, [v0, v1, v2, v3], _ =>
      have g0 := hf 0 _ rfl
      have g1 := hf 1 _ rfl
      have g2 := hf 2 _ rfl
      simp [cellsInt', cellsCell] at g0 g1 g2
      obtain ⟨x0, h0, _, wx0⟩ := DataW.trod_int Try.underlying3 g0
      obtain ⟨x1, h1, _, wx1⟩ := DataW.trod_int Try.underlying3 g1
      obtain ⟨zs, k', hk', _, _, hzl, hf2⟩ := DataW.trod_struct Try.underlying110 g2
      match zs, hzl with
      | [z0, z1], _ =>
        have f0 := hf2 0 _ rfl
        have f1 := hf2 1 _ rfl
        simp [cellsBool', cellsInt64'] at f0 f1
        obtain ⟨x2, h2, _⟩ := DataW.trod_bool Try.underlying4 f0
        obtain ⟨x3, h3, _, wx3⟩ := DataW.trod_int Try.underlying2 f1
        simp only [List.cons.injEq, and_true] at h0 h1 h2 h3
        subst h0 h1 h2 h3
        exact ⟨⟨x0, x1, x2, x3⟩, rfl, ⟨bounds_i64 wx0, bounds_i64 wx1⟩, fun _ => trivial⟩) hf
  rw [scf_flat] at h4
  exact ⟨a, len, cap, xs, h1, h2, h3, h4, h5, fun hz => (h6 hz).1⟩
set_option maxRecDepth 100000 in
theorem chains_of_trod {fuel : Nat} {cs : List Value} {y : DataW H × List MemPlace} (hf : DataW.trod enc Try.prog W 0 (fun _ => true) true fuel 25 cs = some y) :
    ∃ (a : Option Addr) (len cap : Nat) (xs : List Ch), cs = [.slice a len cap] ∧ len = xs.length ∧ (a = none → cap = 0) ∧ CsAt W.heap.size W a (ccs xs) ∧ (∀ x ∈ xs, CsAt W.heap.size W x.a (scs x.l) ∧ (x.a = none → x.c = 0) ∧ KIn x.k ∧ ∀ v ∈ x.l, In64 v.b ∧ In64 v.i) ∧
      ((∀ z ∈ y.1.weights Try.prog 25, z ≤ reachBytes) → len * 40 ≤ reachBytes ∧ ∀ x ∈ xs, x.l.length * 32 ≤ reachBytes) := by
  have hI : Inhabited Ch := ⟨⟨(0, 0), none, 0, []⟩⟩
  obtain ⟨a, len, cap, xs, h1, h2, h3, h4, h5, h6⟩ := slice_of_trod ccf (sz := 3) (fun _ => rfl) (by omega) (fun x => CsAt W.heap.size W x.a (scs x.l) ∧ (x.a = none → x.c = 0) ∧ KIn x.k ∧ ∀ v ∈ x.l, In64 v.b ∧ In64 v.i) (fun x => x.l.length * 32 ≤ reachBytes) Try.underlying25 cellsChain bytesChain (fun fuel cs y hl hf => by
    obtain ⟨ys, k, hk, hxy, _, hxl, hf⟩ := DataW.trod_struct Try.underlying75 hf
    match ys, hxl, cs, hl with
    | [y0, y1], _, [v0, v1, v2], _ =>
      have g0 := hf 0 _ rfl
      have g1 := hf 1 _ rfl
      simp [cellsKey, cellsSStamp] at g0 g1
      obtain ⟨sa, sn, sc, l, hS, hsn, hs0, hsc, hsi, hsz⟩ := stamps_of_trod g1
      obtain ⟨zs, k', hk', _, _, hzl, hf2⟩ := DataW.trod_struct Try.underlying38 g0
      match zs, hzl with
      | [z0, z1], _ =>
        have f0 := hf2 0 _ rfl
        have f1 := hf2 1 _ rfl
        simp [cellsInt', cellsInt64'] at f0 f1
        obtain ⟨x0, h0, _, wx0⟩ := DataW.trod_int Try.underlying3 f0
        obtain ⟨x1, h1, _, wx1⟩ := DataW.trod_int Try.underlying2 f1
        simp only [List.cons.injEq, and_true] at h0 h1 hS
        subst h0 h1 hS hsn
        refine ⟨⟨(x0, x1), sa, sc, l⟩, rfl, ⟨hsc, hs0, ⟨bounds_i64 wx0, bounds_i64 wx1⟩, hsi⟩, fun hz => hsz (fun z hzz => hz z ?_)⟩
        rw [hxy]
        simp only [DataW.weights, Try.underlying75]
        exact DataW.weights_mem_each (j := 1) (t := 73) (d := y1.1) rfl rfl _ hzz) hf
  rw [ccf_flat] at h4
  exact ⟨a, len, cap, xs, h1, h2, h3, h4, h5, h6⟩
theorem array5 {a : Array Value} (h : a.size = 5) : ∃ c0 c1 c2 c3 c4, a = #[c0, c1, c2, c3, c4] := by
  match a, h with
  | ⟨[c0, c1, c2, c3, c4]⟩, _ => exact ⟨c0, c1, c2, c3, c4, rfl⟩
set_option maxRecDepth 100000 in
/-- a Made -/
theorem made_of_trod {r : Reach} {b0 : Nat} {v : Value} {d : DataW H} {q : List MemPlace} (hv : Value.okWide Try.prog W r b0 29 v)
    (h : DataW.Trod enc Try.prog W 0 (fun _ => true) true 29 v d q) :
    ∃ (cap : Int) (rs : Bool) (s : Sn), v = mdv cap rs s ∧ SnAt W.heap.size W s ∧ ((∀ z ∈ d.weights Try.prog 29, z ≤ reachBytes) → SnIn s) := by
  obtain ⟨cs, rfl, hsz⟩ := okWide_struct Try.underlying29 hv
  obtain ⟨k0, k1, k2, k3, k4, rfl⟩ := array5 (hsz.trans cellsMade)
  obtain ⟨fuel, hf⟩ := h
  obtain ⟨xs, k, hk, hxy, _, hxl, hf⟩ := DataW.trod_struct Try.underlying29 (by simpa [Value.cells] using hf)
  match xs, hxl with
  | [y0, y1, y2], _ =>
    have g0 := hf 0 _ rfl
    have g1 := hf 1 _ rfl
    have g2 := hf 2 _ rfl
    simp [cellsInt', cellsBool', cellsSnap] at g0 g1 g2
    obtain ⟨cap, e0, _, _⟩ := DataW.trod_int Try.underlying3 g0
    obtain ⟨rs, e1, _⟩ := DataW.trod_bool Try.underlying4 g1
    obtain ⟨zs, k', hk', hzy, _, hzl, hf2⟩ := DataW.trod_struct Try.underlying27 g2
    match zs, hzl with
    | [z0, z1, z2], _ =>
      have f0 := hf2 0 _ rfl
      have f1 := hf2 1 _ rfl
      have f2 := hf2 2 _ rfl
      simp [cellsInt', cellsSPin, cellsSChain] at f0 f1 f2
      obtain ⟨la, e2, _, wl⟩ := DataW.trod_int Try.underlying3 f0
      obtain ⟨pa, pn, pc, pins, e3, hpn, hp0, hpc, hpi, hpz⟩ := pins_of_trod f1
      obtain ⟨ca, cn, cc, chs, e4, hcn, hc0, hcc, hci, hcz⟩ := chains_of_trod f2
      simp only [List.cons.injEq, and_true] at e0 e1 e2 e3 e4
      subst e0 e1 e2 e3 e4 hpn hcn
      have hd : d = (DataW.agg [y0.1, y1.1, y2.1]) := by simpa using congrArg Prod.fst hxy
      refine ⟨cap, rs, ⟨la, pa, pc, pins, ca, cc, chs⟩, rfl, ⟨hpc, hcc, fun c hc => (hci c hc).1, hp0, fun c hc => (hci c hc).2.1⟩, fun hz => ?_⟩
      have hz2 : ∀ z ∈ y2.1.weights Try.prog 27, z ≤ reachBytes := fun z hzz => hz z (by
        rw [hd]
        simp only [DataW.weights, Try.underlying29]
        exact DataW.weights_mem_each (j := 2) (t := 27) (d := y2.1) rfl rfl _ hzz)
      have hp1 := hpz (fun z hzz => hz2 z (by
        rw [hzy]
        simp only [DataW.weights, Try.underlying27]
        exact DataW.weights_mem_each (j := 1) (t := 24) (d := z1.1) rfl rfl _ hzz))
      have hc1 := hcz (fun z hzz => hz2 z (by
        rw [hzy]
        simp only [DataW.weights, Try.underlying27]
        exact DataW.weights_mem_each (j := 2) (t := 25) (d := z2.1) rfl rfl _ hzz))
      simp only [reachBytes] at hp1 hc1
      exact ⟨by show pins.length ≤ _; omega, by show chs.length ≤ _; omega, fun c hc => by have := hc1.2 c hc; omega, hpi, fun c hc => (hci c hc).2.2, bounds_i64 wl⟩
end
/-- a script that is nil has no room -/
theorem ops_nil {H : Type} {enc : TypeId × Value → H} {W : World} {fuel : Nat} {a : Option Addr} {len cap : Nat} {y : DataW H × List MemPlace}
    (hf : DataW.trod enc Try.prog W 0 (fun _ => true) true fuel 22 [.slice a len cap] = some y) : a = none → cap = 0 := by
  rcases Deep.open_slice Try.underlying22 hf with ⟨h1, _⟩ | ⟨a', len', cap', m, n, D, Pl, h1, _⟩
  · simp at h1; intro _; exact h1.2.2
  · simp at h1; intro e; rw [h1.1] at e; cases e
end Go.Proofs.Ytibdogniiglcjab
/-
  BookShort: THE ROW.
-/
namespace Go.Proofs.Ytibdogniiglcjab.bookShort
open Go.ChangeShapes Go.WideShapes Go.ChangeAt Go.RowKit

theorem weights_at {H : Type} {ts : List TypeId} {ds : List (DataW H)} {j : Nat} {t : TypeId} {d : DataW H} (h : (DataW.weightsEach Try.prog ts ds).all (· ≤ reachBytes) = true) (ht : ts[j]? = some t) (hd : ds[j]? = some d) : ∀ z ∈ d.weights Try.prog t, z ≤ reachBytes := fun z hz => by
  have := List.all_eq_true.1 h _ (DataW.weights_mem_each ht hd z hz)
  simpa using this
theorem own : ownKnob Try.prog.godebug = none := by kernel_rfl
theorem laidOut : laidOutB Try.prog = true := by kernel_rfl

set_option maxRecDepth 100000 in
theorem lifted (os : Os) (started : os.Started) (H : Type) (enc : TypeId × Value → H) :
    ReturnsInHanded {} Try.checked os 5 .any (Rows.bookShortSpec.pre6 enc Try.prog Try.f5 Rows.bookShortRow.domain false) (Rows.bookShortSpec.post enc Try.prog Try.f5 false true false false) := by
  refine returnsInHanded_of_change_sized (C := Try.checked) own started (by kernel_rfl) Try.func5
    (ChangeSpec.witness6 (enc := enc) (C := Try.checked) false ⟨#[], #[.agg #[.int .i64 0, .bool false, .int .i64 0, .slice none 0 0, .slice none 0 0], .slice none 0 0, .slice none 0 0], []⟩ 8 (by kernel_rfl) (by kernel_rfl) (by kernel_rfl) (by kernel_rfl)) ?_
  intro W base args ds gs before hval0 hW hcnd hsz0 _
  have hval : ∀ (j : Nat) t v, Try.f5.params[j]? = some t → args[j]? = some v → Value.okWide Try.prog W .any base t v := hval0
  have hW' := hW
  obtain ⟨p, q, hA0, hV, rfl, hfz, hnd⟩ := hW
  have hA : DataW.TrodAll enc Try.prog W 0 (fun _ => true) true Try.f5.params.toList args.toList ds p := hA0
  have hsz0 : (DataW.weightsEach Try.prog (Try.f5.params.toList ++ Rows.bookShortSpec.plain.varTypes Try.prog) (ds ++ gs)).all (· ≤ reachBytes) = true := hsz0
  rw [Try.params5] at hA hval hsz0
  obtain ⟨v0, vs0, d0, ds0, p0, q0, hargs, rfl, rfl, h0, r0⟩ := trodAll_cons hA
  obtain ⟨v1, vs1, d1, ds1, p1, q1, rfl, rfl, rfl, h1, r1⟩ := trodAll_cons r0
  obtain ⟨v2, vs2, d2, ds2, p2, q2, rfl, rfl, rfl, h2, r2⟩ := trodAll_cons r1
  obtain ⟨rfl, rfl, rfl⟩ := trodAll_nil r2
  obtain rfl : args = #[v0, v1, v2] := by cases args; simp_all
  obtain ⟨rfl, rfl⟩ := trodVars_none hV
  have k0 := h0
  have lt0 : ∀ x ∈ p0, x.block < W.heap.size := by obtain ⟨m, hm⟩ := k0; exact DataW.trod_lt m _ _ _ hm
  obtain ⟨cap_0, rs_0, s_0, rfl, hs_0, hx0⟩ := made_of_trod (hval 0 29 v0 rfl rfl) h0
  have hsi_0 := hx0 (weights_at hsz0 (j := 0) rfl rfl)
  obtain ⟨a_1, len_1, cap_1, rfl⟩ := okWide_slice Try.underlying22 (hval 1 22 v1 rfl rfl)
  have k1 := h1
  have lt1 : ∀ x ∈ p1, x.block < W.heap.size := by obtain ⟨m, hm⟩ := k1; exact DataW.trod_lt m _ _ _ hm
  obtain ⟨fuel1, hf1⟩ := h1
  have hnil_1 : a_1 = none → cap_1 = 0 := ops_nil hf1
  obtain ⟨a1', len1', cap1', os_1, hcs1, hn_1, hin_1, hx1⟩ := ops_of_trod hf1
  simp [Value.cells] at hcs1
  obtain ⟨rfl, rfl, rfl⟩ := hcs1
  obtain ⟨hl_1, hr_1⟩ := hx1 (weights_at hsz0 (j := 1) rfl rfl)
  obtain ⟨a_2, len_2, cap_2, rfl⟩ := okWide_slice Try.underlying36 (hval 2 36 v2 rfl rfl)
  have k2 := h2
  have lt2 : ∀ x ∈ p2, x.block < W.heap.size := by obtain ⟨m, hm⟩ := k2; exact DataW.trod_lt m _ _ _ hm
  obtain ⟨fuel2, hf2⟩ := h2
  obtain ⟨a2', len2', cap2', L_2, hcs2, hn_2, hin_2, hl_2, hx2⟩ := lists_of_trod hf2
  simp [Value.cells] at hcs2
  obtain ⟨rfl, rfl, rfl⟩ := hcs2
  obtain ⟨hr_2, hr2_2⟩ := hx2 (weights_at hsz0 (j := 2) rfl rfl)
  simp only [reachBytes] at hr_1 hr_2 hr2_2
  clear hA0 hval0
  refine (lawBkShort W cap_0 rs_0 s_0 hs_0 hsi_0 a_1 len_1 cap_1 os_1 hn_1 hl_1 hin_1 (by omega) hnil_1 a_2 len_2 cap_2 L_2 hn_2 hl_2 hin_2 (by omega) (fun s hs => by have := hr2_2 s hs; omega)).mono fun e W' hp => ?_
  obtain ⟨he, bel⟩ := hp
  subst he
  exact ⟨_, rfl, _, _, _, [], _, [], hW', trodAll_mk1 (shut_bool Try.underlying4 _), (trodAll_cons_mk (Below.trod laidOut (by kernel_rfl) (of_decide_eq_true (by kernel_rfl)) k0 bel lt0) (trodAll_cons_mk (Below.trod laidOut (by kernel_rfl) (of_decide_eq_true (by kernel_rfl)) k1 bel lt1) (trodAll_cons_mk (Below.trod laidOut (by kernel_rfl) (of_decide_eq_true (by kernel_rfl)) k2 bel lt2) trodAll_mk0))), rfl, bel.frame _, fun h => by cases h⟩

theorem proved : Rows.BookShortSaid :=
  OpenClaim.holds_of_wide 5 Try.f5 rfl rfl rfl rfl rfl rfl rfl ⟨rfl, rfl, rfl, rfl, rfl⟩ rfl rfl rfl rfl rfl (by kernel_rfl) Try.func5 (by kernel_rfl)
    (of_decide_eq_true (by kernel_rfl)) (by unfold Func.isWrapper; first | (rw [if_pos (by decide +kernel)]; kernel_rfl) | (rw [if_neg (by decide +kernel)]; exact ⟨rfl, rfl⟩))
    (fun os started H enc _ => lifted os started H enc)
end Go.Proofs.Ytibdogniiglcjab.bookShort
namespace Go.Proofs.Ytibdogniiglcjab
theorem bookShort_holds : Rows.BookShortSaid := bookShort.proved
#print axioms bookShort_holds
end Go.Proofs.Ytibdogniiglcjab
