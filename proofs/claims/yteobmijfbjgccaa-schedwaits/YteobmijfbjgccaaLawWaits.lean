/-
  SchedWaits: THE LAW.
-/
import Derived.Test.YteobmijfbjgccaaLawRests
namespace Go.Proofs.Yteobmijfbjgccaa
open Go.RowKit Go.Sort

/-- a row of numbers of one's own -/
structure NZ (w : World) (N : Nat) (g n : Nat) (vs : Nat → Int) : Prop where
  row : WI w g ((List.range n).map vs)
  ge : N ≤ g
theorem NZ.cell {w : World} {N g n : Nat} {vs : Nat → Int} (h : NZ w N g n vs) {i : Nat} (hi : i < n) : w.cell? ⟨g, i, none⟩ = some (.int .i64 (vs i)) := h.row.cell (by simp [hi])
theorem NZ.set {w : World} {N g n : Nat} {vs : Nat → Int} (h : NZ w N g n vs) (i : Nat) (x : Int) : NZ (w.setCell ⟨g, i, none⟩ (.int .i64 x)) N g n (updZ vs i x) := by
  refine ⟨?_, h.ge⟩
  have := h.row.set i x
  have e : ((List.range n).map vs).set i x = (List.range n).map (updZ vs i x) := by
    apply List.ext_getElem
    · simp
    · intro j h1 h2
      simp only [List.length_map, List.length_range] at h2
      rw [List.getElem_set]
      simp only [List.getElem_map, List.getElem_range]
      by_cases e : i = j
      · subst e; simp [updZ]
      · rw [if_neg e, updZ_ne (by omega)]
  rw [← e]
  exact this
theorem NZ.congr {w : World} {N g n : Nat} {vs vs' : Nat → Int} (h : NZ w N g n vs) (he : ∀ i, i < n → vs i = vs' i) : NZ w N g n vs' := by
  refine ⟨?_, h.ge⟩
  rw [← List.map_congr_left (fun i hi => he i (List.mem_range.1 hi))]
  exact h.row
theorem NZ.frame {w w' : World} {S : Nat → Prop} {N g n : Nat} {vs : Nat → Int} (h : NZ w N g n vs) (hf : FrZ S w w') (hS : ¬ S g) : NZ w' N g n vs := ⟨(hf.block g h.row.lt hS).trans h.row, h.ge⟩
/-- of a row of numbers none is a chore's or a line's -/
theorem RS.notI {w wr : World} {n : Nat} {B : Nat → List Int} {ts : Nat → Int} {lo : Option Addr} {lc : Nat} {cb : Nat → Nat} {X : Nat → Prop} {lb : Nat} {ao : Option Addr} {tc : Nat} {lr : Nat → Nat} {k : Nat} (h : RS w n B ts lo lc cb X lb ao tc wr lr k) {g : Nat} {C : Array Value} (hg : wr.heap[g]? = some (.cells C 3 (0, 0))) : ¬ (X g ∨ g = lb) := by
  rintro (hx | hx)
  · obtain ⟨C', T, h1, h2⟩ := h.sl.ci.xt g hx
    rw [hg] at h1
    cases h1
    rcases h2 with h2 | h2 <;> cases h2
  · rw [hx, h.sl.ln.ln] at hg
    cases hg
theorem RS.store {w wr : World} {n : Nat} {B : Nat → List Int} {ts : Nat → Int} {lo : Option Addr} {lc : Nat} {cb : Nat → Nat} {X : Nat → Prop} {lb : Nat} {ao : Option Addr} {tc : Nat} {lr : Nat → Nat} {k : Nat} (h : RS w n B ts lo lc cb X lb ao tc wr lr k) {g : Nat} {C : Array Value} (hg : wr.heap[g]? = some (.cells C 3 (0, 0))) (hge : w.heap.size ≤ g) (i : Nat) (v : Value) : RS w n B ts lo lc cb X lb ao tc (wr.setCell ⟨g, i, none⟩ v) lr k := by
  have hf : FrZ (fun j => j = g) wr (wr.setCell ⟨g, i, none⟩ v) := (FrZ.refl (fun j => j = g) wr).set ⟨g, i, none⟩ v (.inr rfl)
  have hn := h.notI hg
  refine ⟨h.sl.frame hf (fun j hj e => hn (.inl (e ▸ hj))) (fun e => hn (.inr e.symm)) (fun g' hg' e => ?_), h.ow.kept (fun g' hg' => hf.block _ (h.ow.lt g' hg').2 (fun e => ?_)), h.bl.trans (hf.below h.bl.size (fun j hj => by rw [hj]; exact hge)), h.xn, h.nx⟩
  · obtain ⟨C', hC⟩ := h.sl.ln.rt g' hg'
    rw [e, hg] at hC
    cases hC
  · obtain ⟨C', hC⟩ := h.ow.ty g' hg'
    rw [e, hg] at hC
    cases hC
/-- the number of the chore that took a step -/
def whoZ (n : Nat) (turn : Int) (o : Option Nat) : Int := match o with | none => -1 | some p => tsM n turn p
/-- what is noted, behind the first k -/
def mixZ (a b : Nat → Nat) (k : Nat) (i : Nat) : Int := if i < k then (b i : Int) else (a i : Int)
theorem mixZ_zero (a b : Nat → Nat) (i : Nat) : mixZ a b 0 i = (a i : Int) := by simp [mixZ]
theorem mixZ_step (a b : Nat → Nat) (k : Nat) (i : Nat) : updZ (mixZ a b k) k (b k : Int) i = mixZ a b (k + 1) i := by
  unfold updZ mixZ
  by_cases e : i = k
  · subst e; simp
  · by_cases h : i < k
    · rw [if_neg e, if_pos h, if_pos (by omega)]
    · rw [if_neg e, if_neg h, if_neg (by omega)]
theorem waits_math {L : List Mk} {n : Nat} {turn : Int} (hn : n = L.length) (lr : Nat → Nat) (x : Int) :
    (∀ k, k < n → (k : Int) = whoZ n turn (tkP lr (blM L) n (tsM n turn) x) → ((tkL lr (tsM n turn) (tkP lr (blM L) n (tsM n turn) x) k : Nat) : Int) = (lr k : Int) - 1 ∧ 1 ≤ lr k) ∧
    (∀ k, k < n → (k : Int) ≠ whoZ n turn (tkP lr (blM L) n (tsM n turn) x) → tkL lr (tsM n turn) (tkP lr (blM L) n (tsM n turn) x) k = lr k) ∧
    (∀ c : Nat, whoZ n turn (tkP lr (blM L) n (tsM n turn) x) = (c : Int) → c < n ∧ ∀ z ∈ blM L c, tkL lr (tsM n turn) (tkP lr (blM L) n (tsM n turn) x) z.toNat = 0) ∧
    (whoZ n turn (tkP lr (blM L) n (tsM n turn) x) < (n : Int) ∧ -1 ≤ whoZ n turn (tkP lr (blM L) n (tsM n turn) x)) := by
  have hA : AllZ n (blM L) n (tsM n turn) := by rw [hn]; exact AllZ.ofL
  cases hp : tkP lr (blM L) n (tsM n turn) x with
  | none => exact ⟨fun k _ h => (by simp [whoZ] at h), fun k _ _ => rfl, fun c h => (by simp [whoZ] at h), by simp [whoZ]; omega⟩
  | some p =>
    obtain ⟨h1, h2⟩ := tkP_some hp
    obtain ⟨h3, h4⟩ := rtZ_pos h2
    obtain ⟨h5, h6⟩ := rdZ_pos h4
    have h7 := hA.tz p h1
    simp only [whoZ, tkL]
    generalize tsM n turn p = c at *
    refine ⟨fun k _ h => ?_, fun k _ h => ?_, fun c' h => ?_, h7, by omega⟩
    · have e : k = c.toNat := by omega
      subst e
      unfold decZ
      rw [updZ_same]
      omega
    · unfold decZ
      exact updZ_ne (by omega)
    · have e : c.toNat = c' := by omega
      rw [e] at h6 ⊢
      refine ⟨by omega, fun z hz => ?_⟩
      have hzc := hA.bi c' (by omega) z hz
      have h8 := h6 z hz
      have hz0 : 0 ≤ z := by
        unfold blM at hz
        by_cases h0 : c' = 0
        · rw [if_pos h0] at hz; simp at hz
        · rw [if_neg h0] at hz
          obtain ⟨y, _, rfl⟩ := List.mem_map.1 hz
          exact (wiZ_range (by omega)).1
      unfold decZ
      rw [updZ_ne (by omega)]
      simp only [edZ, Bool.or_eq_true, decide_eq_true_eq] at h8
      omega
set_option maxRecDepth 100000 in
set_option maxHeartbeats 8000000 in
theorem law_waits (w : World) (ao po : Option Addr) (n ca m cp : Nat) (L : List Mk) (turn : Int) (ps : List Int) (h : MksAt w ao L) (hn : n = L.length) (hnb : n ≤ 20000000000000) (hp : WAt w po (i64s ps)) (hm : m = ps.length) (hb : m ≤ 20000000000000) :
    Calls Try.prog 8 #[.slice ao n ca, .int .i64 turn, .slice po m cp] w fun e w' => e = .returned (.bool true) ∧ RowKit.Below w.heap.size w w' := by
  have HL := hidW h
  have HN := hidW hn
  have HP := hidW hp
  have HM := hidW hm
  have HPt := hidW (parts_any w ao none n 0 ca 0 L [] h (OqsAt.nil _ _) hn rfl hnb (by omega))
  clear h hn hp hm
  go_enter Try.func8, Try.ntmps8
  go_wp2_with fail
  refine HPt.out.mono ?_
  rintro e wx ⟨r, rfl, hwx, hr⟩
  have hwx' := hwx.symm
  subst hwx'
  have HPP := hidW hr
  clear hwx HPt hr
  by_cases hr0 : r < 0
  · go_wp2
    go_ret
    exact ⟨rfl, Below.refl _ _⟩
  · have hpts : ptsM L ≤ 100000 := by have := HPP.out hr0; omega
    have hn1 : n ≤ 100000 := by have := ptsM_len L; have := HN.out; omega
    have HPS := hidW hpts
    clear hpts HPP
    go_wp2_with fail
    refine (works_any w).mono ?_
    rintro e w1 ⟨rfl, hb1⟩
    have HB1 := hidW hb1
    clear hb1
    have HLi := hidW (line_any w1 ao n ca L turn (HL.out.below HB1.out) HN.out HPS.out)
    go_wp2_with fail
    refine HLi.out.mono ?_
    intro e w2 hl
    obtain ⟨lo, lc, cb, X, lb, bo, tc, rfl, hrs⟩ := hl.rs
    rw [← HN.out] at hrs
    rw [← HN.out]
    clear hl HLi
    obtain ⟨W, hW⟩ : ∃ W, W = w2.alloc (.cells (intsW (List.replicate n 0)) 3) := ⟨_, rfl⟩
    have hbW : RowKit.Below w2.heap.size w2 W := by rw [hW]; exact (Below.refl _ _).alloc (Nat.le_refl _) _
    have HR0 := hidW (hrs.kept hbW)
    have HN0 : Hid (NZ W w1.heap.size w2.heap.size n (fun _ => 0)) := by
      refine ⟨?_, hrs.bl.size⟩
      rw [hW, WI]
      rw [heap_alloc_new _ _ rfl]
      rw [show (List.range n).map (fun _ => (0 : Int)) = List.replicate n 0 by rw [List.map_const', List.length_range]]
    have hmk := make_intsW n (n : Int) rfl (by omega) w2
    rw [← hW] at hmk
    clear hrs hbW hW
    go_wp2_with fail
    clear hmk
    obtain ⟨gl, hgl⟩ : ∃ gl, gl = w2.heap.size := ⟨_, rfl⟩
    rw [← hgl] at HN0 ⊢
    clear hgl
    go_loopw [10] (fun y wr => ∃ (i : Nat), i ≤ n ∧ y = .int .i64 (i : Int) ∧ Hid (RS w1 n (blM L) (tsM n turn) lo lc cb X lb bo tc wr (lsM L) 0) ∧ Hid (NZ wr w1.heap.size gl n (mixZ (fun _ => 0) (lsM L) i))) (fun y _ => n - (intOf y).toNat)
    case atStart => exact ⟨0, Nat.zero_le _, rfl, HR0, HN0.out.congr (fun i _ => (mixZ_zero (fun _ => 0) (lsM L) i).symm)⟩
    case round =>
      clear HR0 HN0
      obtain ⟨i, hi, rfl, HR, HZ⟩ := hrel
      by_cases hlt : i < n
      · obtain ⟨b, off, rfl, e1⟩ := HR.out.ow.at_ i (ptZ (cb i)) (by simp [hlt])
        have HL1 := hidW (left_any HR.out.sl.ci i hlt)
        have c0 := HZ.out.cell hlt
        have f0 := HZ.out.row.frozen i
        have HR2 : Hid (RS w1 n (blM L) (tsM n turn) (some ⟨b, off, none⟩) lc cb X lb bo tc (wr.setCell ⟨gl, i, none⟩ (.int .i64 (lsM L i : Int))) (lsM L) 0) := HR.out.store HZ.out.row HZ.out.ge i _
        have HZ2 : Hid (NZ (wr.setCell ⟨gl, i, none⟩ (.int .i64 (lsM L i : Int))) w1.heap.size gl n (mixZ (fun _ => 0) (lsM L) (i + 1))) := (HZ.out.set i _).congr (fun j _ => mixZ_step _ _ _ _)
        generalize mixZ (fun _ => 0) (lsM L) i i = x0 at *
        generalize lsM L i = x at *
        go_wp2_with fail
        refine HL1.out.mono ?_
        rintro e wx ⟨rfl, hwx⟩
        have hwx' := hwx.symm
        subst hwx'
        clear hwx
        clear HR HZ HL1
        go_wp2
        go_roundw
        case rel => exact ⟨i + 1, by omega, by go_num, HR2, HZ2⟩
        case measure => simp [intOf]; omega
      · obtain rfl : i = n := by omega
        have HZ0 : Hid (NZ wr w1.heap.size gl i (fun j => (lsM L j : Int))) := HZ.out.congr (fun j hj => by simp [mixZ, hj])
        clear HZ
        generalize wr = W0 at *
        go_wp2_with fail
        go_loopw [11, 12, 13, 14, 15, 16] (fun y _ _ _ _ _ wr => ∃ (q : Nat) (lr : Nat → Nat) (k : Nat), q ≤ m ∧ y = .int .i64 (q : Int) ∧ Hid (RS w1 i (blM L) (tsM i turn) lo lc cb X lb bo tc wr lr k) ∧ Hid (NZ wr w1.heap.size gl i (fun j => (lr j : Int)))) (fun y _ _ _ _ _ _ => m - (intOf y).toNat)
        case atStart => exact ⟨0, lsM L, 0, Nat.zero_le _, rfl, HR, HZ0⟩
        case round =>
          clear HR HZ0
          obtain ⟨q, lr, k, hq, rfl, HR, HZ⟩ := hrel
          by_cases hlt2 : q < m
          · have hil : q < ps.length := by have := HM.out; omega
            obtain ⟨g, off, rfl, e1⟩ := (HP.out.below (HB1.out.trans (HR.out.bl.mono HB1.out.size))).int q hil
            generalize ps[q] = x at *
            have HTk := hidW (take_any HR.out.sl x)
            obtain ⟨hu1, hu2, hu3, hu4, hu5⟩ := waits_math (turn := turn) HN.out lr x
            have HU1 := hidW hu1
            have HU2 := hidW hu2
            have HU3 := hidW hu3
            clear hu1 hu2 hu3
            obtain ⟨o, ho⟩ : ∃ o, o = tkP lr (blM L) i (tsM i turn) x := ⟨_, rfl⟩
            rw [← ho] at HTk HU1 HU2 HU3 hu4 hu5
            have HOp : Hid (∀ p, o = some p → p < i) := fun p hp => (tkP_some (ho ▸ hp)).1
            clear ho
            go_wp2_with fail
            refine HTk.out.mono ?_
            rintro e w3 ⟨rfl, h1, h2⟩
            have HR2 := hidW (HR.out.go h1 h2)
            have HZ2 : Hid (NZ w3 w1.heap.size gl i (fun j => (lr j : Int))) := HZ.out.frame h2 (HR.out.notI HZ.out.row)
            clear h1 h2 HTk HR HZ e1
            generalize tkL lr (tsM i turn) o = lr' at *
            go_upto_if 58 with fail
            go_cut [13] from 45 to 125 (fun y wx => y = .int .i64 (whoZ i turn o) ∧ wx = w3)
            case first =>
              cases o with
              | none =>
                simp only [tkA]
                go_wp2_with fail
                go_meet
                case rel => exact ⟨rfl, rfl⟩
              | some p =>
                have hpi := HOp.out p rfl
                have hp0 : (0 : Int) ≤ (p : Int) := by omega
                have hi0 : 0 < i := by omega
                obtain ⟨t1, t2⟩ := wiZ_range (x := turn) hi0
                have HW1 := hidW (within_any w3 turn i (by omega))
                have HW2 := hidW (within_any w3 ((p : Int) + wiZ turn i) i (by omega))
                rw [show wiZ ((p : Int) + wiZ turn i) i = tsM i turn p from rfl] at HW2
                simp only [tkA]
                have HWh : Hid (whoZ i turn (some p) = tsM i turn p) := rfl
                generalize whoZ i turn (some p) = who at *
                generalize wiZ turn i = t at *
                go_wp2_with fail
                refine HW1.out.mono ?_
                rintro e wx ⟨rfl, hwx⟩
                have hwx' := hwx.symm
                subst hwx'
                clear hwx
                go_wp2_with fail
                refine HW2.out.mono ?_
                rintro e wx ⟨rfl, hwx⟩
                have hwx' := hwx.symm
                subst hwx'
                clear hwx
                go_wp2_with fail
                go_meet
                case rel => exact ⟨by rw [HWh.out], rfl⟩
            case rest =>
              obtain ⟨rfl, hwc⟩ := hcut
              subst hwc
              generalize whoZ i turn o = who at *
              have HM0 : Hid (NZ wc w1.heap.size gl i (mixZ lr lr' 0)) := HZ2.out.congr (fun j _ => (mixZ_zero lr lr' j).symm)
              clear HZ2
              go_wp2_with fail
              go_loopw [14, 15] (fun y _ wr => ∃ (t : Nat), t ≤ i ∧ y = .int .i64 (t : Int) ∧ Hid (RS w1 i (blM L) (tsM i turn) lo lc cb X lb bo tc wr lr' (k + tkK o)) ∧ Hid (NZ wr w1.heap.size gl i (mixZ lr lr' t))) (fun y _ _ => i - (intOf y).toNat)
              case atStart => exact ⟨0, Nat.zero_le _, rfl, HR2, HM0⟩
              case round =>
                clear HR2 HM0
                obtain ⟨t, ht, rfl, HR, HZ⟩ := hrel
                by_cases hlt3 : t < i
                · obtain ⟨b2, off2, hlo, e1⟩ := HR.out.ow.at_ t (ptZ (cb t)) (by simp [hlt3])
                  have HL1 := hidW (left_any HR.out.sl.ci t hlt3)
                  have c0 := HZ.out.cell hlt3
                  have f0 := HZ.out.row.frozen t
                  rw [show mixZ lr lr' t t = (lr t : Int) by simp [mixZ]] at c0
                  have hlb := HR.out.sl.ci.le t hlt3
                  have hti : (t : Int) < (i : Int) := by omega
                  subst hlo
                  by_cases hw : (t : Int) = who
                  · obtain ⟨h1, h2⟩ := HU1.out t hlt3 hw
                    have h1' : (lr t : Int) - 1 = (lr' t : Int) := h1.symm
                    have HR2 : Hid (RS w1 i (blM L) (tsM i turn) (some ⟨b2, off2, none⟩) lc cb X lb bo tc (wr.setCell ⟨gl, t, none⟩ (.int .i64 (lr' t : Int))) lr' (k + tkK o)) := HR.out.store HZ.out.row HZ.out.ge t _
                    have HZ2 : Hid (NZ (wr.setCell ⟨gl, t, none⟩ (.int .i64 (lr' t : Int))) w1.heap.size gl i (mixZ lr lr' (t + 1))) := (HZ.out.set t _).congr (fun j _ => mixZ_step _ _ _ _)
                    have c1 : (wr.setCell ⟨gl, t, none⟩ (.int .i64 (lr' t : Int))).cell? ⟨gl, t, none⟩ = some (.int .i64 (lr' t : Int)) := by
                      have := HZ2.out.cell hlt3
                      rw [show mixZ lr lr' (t + 1) t = (lr' t : Int) by simp [mixZ]] at this
                      exact this
                    have hwd : ((t : Int) == who) = true := by rw [hw]; exact beq_self_eq_true _
                    have h0 : ¬ (lr' t : Int) < 0 := by omega
                    have hwr1 : IntKind.i64.wrap ((lr t : Int) - 1) = (lr' t : Int) := by rw [h1', IntKind.wrap_i64]; omega
                    clear HR HZ h1
                    generalize lr' t = y' at *
                    generalize lr t = y at *
                    replace hw := hidW hw
                    replace h1' := hidW h1'
                    go_wp2_with fail
                    refine HL1.out.mono ?_
                    rintro e wx ⟨rfl, hwx⟩
                    have hwx' := hwx.symm
                    subst hwx'
                    clear hwx
                    go_wp2_with fail
                    go_roundw
                    case rel => exact ⟨t + 1, by omega, by go_num, HR2, HZ2⟩
                    case measure => simp [intOf]; omega
                  · have h1 := HU2.out t hlt3 hw
                    have HZ2 : Hid (NZ wr w1.heap.size gl i (mixZ lr lr' (t + 1))) := HZ.out.congr (fun j _ => by
                      by_cases e : j = t
                      · subst e; simp [mixZ, h1]
                      · simp only [mixZ]
                        by_cases h : j < t
                        · rw [if_pos h, if_pos (by omega)]
                        · rw [if_neg h, if_neg (by omega)])
                    have hwd : ((t : Int) == who) = false := by rw [beq_eq_false_iff_ne]; exact hw
                    rw [h1] at HL1
                    have h0 : ¬ (lr t : Int) < 0 := by omega
                    clear HZ h1
                    generalize lr t = y at *
                    replace hw := hidW hw
                    go_wp2_with fail
                    refine HL1.out.mono ?_
                    rintro e wx ⟨rfl, hwx⟩
                    have hwx' := hwx.symm
                    subst hwx'
                    clear hwx
                    go_wp2_with fail
                    go_roundw
                    case rel => exact ⟨t + 1, by omega, by go_num, HR, HZ2⟩
                    case measure => simp [intOf]; omega
                · obtain rfl : t = i := by omega
                  have HZ3 : Hid (NZ wr w1.heap.size gl t (fun j => (lr' j : Int))) := HZ.out.congr (fun j hj => by simp [mixZ, hj])
                  clear HZ HU1 HU2
                  by_cases hw0 : 0 < who
                  · obtain ⟨c, hc⟩ : ∃ c : Nat, who = (c : Int) := ⟨who.toNat, by omega⟩
                    subst hc
                    obtain ⟨hcn, hbz⟩ := HU3.out c rfl
                    have hcL : c < L.length := by have := HN.out; omega
                    have HMk := HL.out.below (HB1.out.trans (HR.out.bl.mono HB1.out.size))
                    obtain ⟨b3, off3, hao, _, d2⟩ := HMk.get c hcL
                    have HZs := hidW (HMk.sub L[c] (List.getElem_mem hcL)).1
                    have HPz : Hid (L[c].zs.length ≤ 100000) := by have := ptsM_mem (List.getElem_mem hcL); have := HPS.out; show _ ≤ _; omega
                    have HBz : Hid (∀ z ∈ L[c].zs, lr' (wiZ z c).toNat = 0) := fun z hz => hbz _ (by unfold blM; rw [if_neg (by omega), getM hcL]; exact List.mem_map.2 ⟨z, hz, rfl⟩)
                    obtain ⟨zs, hzs⟩ : ∃ zs, zs = L[c].zs := ⟨_, rfl⟩
                    obtain ⟨za, hza⟩ : ∃ za, za = L[c].a := ⟨_, rfl⟩
                    obtain ⟨zc, hzc⟩ : ∃ zc, zc = L[c].c := ⟨_, rfl⟩
                    obtain ⟨zl, hzl⟩ : ∃ zl, zl = zs.length := ⟨_, rfl⟩
                    rw [← hzs, ← hza, ← hzc, ← hzl] at d2
                    rw [← hzs, ← hza] at HZs
                    rw [← hzs, ← hzl] at HPz
                    rw [← hzs] at HBz
                    have HZL := hidW hzl
                    have hzl2 := HPz.out
                    have hc0 : 0 < c := by omega
                    have hcI : (c : Int) < (t : Int) := by omega
                    subst hao
                    clear hzs hza hzc hzl HPz HMk hbz HU3
                    generalize wr = V at *
                    go_wp2_with fail
                    go_loopw [16] (fun y wr => ∃ (u : Nat), u ≤ zl ∧ y = .int .i64 (u : Int) ∧ wr = V) (fun y _ => zl - (intOf y).toNat)
                    case atStart => exact ⟨0, Nat.zero_le _, rfl, rfl⟩
                    case round =>
                      obtain ⟨u, hu, rfl, hwr⟩ := hrel
                      subst hwr
                      by_cases hlt4 : u < zl
                      · have hul : u < zs.length := by have := HZL.out; omega
                        obtain ⟨g4, off4, rfl, d3⟩ := HZs.out.int u hul
                        have hz0 := HBz.out zs[u] (List.getElem_mem hul)
                        obtain ⟨r1, r2⟩ := wiZ_range (x := zs[u]) hc0
                        have HWi := hidW (within_any wr zs[u] c (by omega))
                        obtain ⟨j, hj⟩ : ∃ j : Nat, wiZ zs[u] c = (j : Int) := ⟨(wiZ zs[u] c).toNat, by omega⟩
                        rw [hj] at HWi hz0 r2
                        have d4 := HZ3.out.cell (show j < t by omega)
                        simp only [Int.toNat_natCast] at hz0
                        rw [hz0, show ((0 : Nat) : Int) = 0 from rfl] at d4
                        generalize zs[u] = x4 at *
                        have hjI : (j : Int) < (t : Int) := by omega
                        clear hz0 hj r1
                        go_wp2_with fail
                        refine HWi.out.mono ?_
                        rintro e wx ⟨rfl, hwx⟩
                        have hwx' := hwx.symm
                        subst hwx'
                        clear hwx
                        go_wp2
                        go_roundw
                        case rel => exact ⟨u + 1, by omega, by go_num, trivial⟩
                        case measure => simp [intOf]; omega
                      · obtain rfl : u = zl := by omega
                        go_wp2_with fail
                        go_roundw
                        case rel => exact ⟨q + 1, lr', k + tkK o, by omega, by go_num, HR, HZ3⟩
                        case measure => simp [intOf]; omega
                  · generalize wr = V at *
                    go_wp2_with fail
                    go_loopw [16] (fun y wr => y = .int .i64 0 ∧ wr = V) (fun _ _ => 0)
                    case atStart => exact ⟨rfl, rfl⟩
                    case round =>
                      obtain ⟨rfl, hwr⟩ := hrel
                      subst hwr
                      go_wp2_with fail
                      go_roundw
                      case rel => exact ⟨q + 1, lr', k + tkK o, by omega, by go_num, HR, HZ3⟩
                      case measure => simp [intOf]; omega
          · obtain rfl : q = m := by omega
            have HBf : Hid (RowKit.Below w.heap.size w wr) := HB1.out.trans (HR.out.bl.mono HB1.out.size)
            clear HR HZ
            go_wp2
            go_ret
            exact ⟨rfl, HBf.out⟩
end Go.Proofs.Yteobmijfbjgccaa
