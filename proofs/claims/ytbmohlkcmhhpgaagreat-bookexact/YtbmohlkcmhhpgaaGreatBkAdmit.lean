/-
  Admit.
-/
import Derived.Test.YtbmohlkcmhhpgaaGreatBkForm
import Derived.Deep.RegionHeld3
import Derived.BigQuiet
import Derived.Deep.Cut
namespace Go.Proofs.YtbmohlkcmhhpgaaGreat
open Go.RowKit Go.Sort

/-- a set's versions -/
def setV (n i : Int) (s : List K) : List V4 := s.map (fun k => (k, (n, i)))
/-- a batch's versions -/
def newFrom (n : Int) : Int → List (List K) → List V4
  | _, [] => []
  | i, s :: l => setV n i s ++ newFrom n (i + 1) l
theorem newFrom_append (n : Int) : ∀ (A B : List (List K)) (i : Int), newFrom n i (A ++ B) = newFrom n i A ++ newFrom n (i + (A.length : Int)) B
  | [], B, i => by simp [newFrom]
  | s :: A, B, i => by
    simp only [List.cons_append, newFrom, newFrom_append n A B, List.append_assoc, List.length_cons]
    congr 3
    push_cast
    omega
theorem newFrom_len (n : Int) : ∀ (L : List (List K)) (i : Int), (newFrom n i L).length = wgt L
  | [], _ => rfl
  | s :: l, i => by
    have h := newFrom_len n l (i + 1)
    simp only [newFrom, List.length_append, h, wgt, List.map_cons, List.sum_cons, setV, List.length_map]
theorem newFrom_mem {n : Int} : ∀ {L : List (List K)} {i : Int} {v : V4}, v ∈ newFrom n i L → v.2.1 = n ∧ i ≤ v.2.2 ∧ v.2.2 < i + (L.length : Int)
  | s :: l, i, v, h => by
    simp only [newFrom, setV, List.mem_append, List.mem_map] at h
    rcases h with ⟨k, _, rfl⟩ | h
    · refine ⟨rfl, Int.le_refl _, ?_⟩
      simp only [List.length_cons]
      push_cast
      omega
    · have := newFrom_mem h
      simp only [List.length_cons]
      push_cast
      omega
/-- what Admit answers -/
def admE (cap latest : Int) (all : List V4) (L : List (List K)) : Int :=
  if formN L ≠ 0 then formN L else if latest = 1099511627776 then 101 else if cap < (all.length : Int) + (wgt L : Int) then 100 else 0
def AdmPost (w : World) (B Mp Mc Mn : Nat) (cap latest floor : Int) (pins : List (Int × Int)) (all : List V4) (L : List (List K)) (e : Ending) (w' : World) : Prop :=
  (admE cap latest all L ≠ 0 ∧ e = .returned (.tuple #[.int .i64 0, .int .i64 (admE cap latest all L)]) ∧ Below w.heap.size w w') ∨
  (admE cap latest all L = 0 ∧ e = .returned (.tuple #[.int .i64 (latest + 1), .int .i64 0]) ∧ (∃ nw', BA w' B Mp Mc Mn cap (latest + 1) floor pins (all ++ newFrom (latest + 1) 0 L) nw') ∧ Fr (SB B Mp Mc Mn) w w')
/-- the latest one is told -/
theorem BA.setLatest {w : World} {B Mp Mc Mn : Nat} {cap latest floor : Int} {pins : List (Int × Int)} {all : List V4} {nw : List K} (h : BA w B Mp Mc Mn cap latest floor pins all nw) (hl : latest + 1 ≤ 1099511627776) : BA (w.setCell ⟨B, 1, none⟩ (.int .i64 (latest + 1))) B Mp Mc Mn cap (latest + 1) floor pins all nw := by
  have hne := h.Bne
  have hs : ∀ k, k ≠ B → (w.setCell ⟨B, 1, none⟩ (.int .i64 (latest + 1))).heap[k]? = w.heap[k]? := fun k hk => heap_setCell_other _ _ _ _ (fun e => hk e)
  refine ⟨?_, h.mp.same (hs _ hne.1.symm), h.mc.same (hs _ hne.2.1.symm), h.mn.same (hs _ hne.2.2.symm), h.nwa, h.ne, h.cp, ?_, h.ln, fun v hv => ?_, ⟨h.ps.1, fun p hp => ?_⟩, h.rs, h.ik⟩
  · rw [heap_setCell_same w B 1 _ _ _ h.bk]; rfl
  · have := h.la; omega
  · have := h.pl v hv; unfold PlOK at *; omega
  · have := h.ps.2 p hp; omega
theorem newFrom_take {n : Int} {L : List (List K)} {i : Nat} (hi : i < L.length) : newFrom n 0 (L.take (i + 1)) = newFrom n 0 (L.take i) ++ setV n (i : Int) L[i] := by
  rw [List.take_succ_eq_append_getElem hi, newFrom_append, List.length_take, Nat.min_eq_left (by omega)]
  simp [newFrom]
theorem setV_take {n i : Int} {s : List K} {j : Nat} (hj : j < s.length) : setV n i (s.take (j + 1)) = setV n i (s.take j) ++ [(s[j], (n, i))] := by
  unfold setV
  rw [List.take_succ_eq_append_getElem hj, List.map_append]
  rfl
/-- the next one may come -/
theorem adm_next {latest cap : Int} {all : List V4} {L : List (List K)} (hall : ∀ v ∈ all, PlOK latest v) {i j : Nat} (hi : i < L.length) (hj : j < L[i].length) (hr : Rise L[i]) (hl0 : 0 ≤ latest) (h64 : L.length ≤ 64) (hcap : (all.length : Int) + (wgt L : Int) ≤ cap) :
    PlOK (latest + 1) (L[i][j], (latest + 1, (i : Int))) ∧ (∀ u ∈ all ++ newFrom (latest + 1) 0 (L.take i) ++ setV (latest + 1) i (L[i].take j), u.1 = L[i][j] → later (L[i][j], (latest + 1, (i : Int))) u) ∧ ((all ++ newFrom (latest + 1) 0 (L.take i) ++ setV (latest + 1) i (L[i].take j)).length : Int) + 1 ≤ cap := by
  refine ⟨⟨by show (1 : Int) ≤ latest + 1; omega, Int.le_refl _, by show (0 : Int) ≤ (i : Int); omega, by show (i : Int) < 64; omega⟩, fun u hu hk => ?_, ?_⟩
  · unfold later
    simp only
    rcases List.mem_append.1 hu with hu | hu
    · rcases List.mem_append.1 hu with hu | hu
      · have := hall u hu
        unfold PlOK at this
        omega
      · have h1 := newFrom_mem hu
        rw [List.length_take] at h1
        right
        refine ⟨h1.1, ?_⟩
        have : (min i L.length : Nat) ≤ i := Nat.min_le_left _ _
        omega
    · unfold setV at hu
      obtain ⟨k, hk2, rfl⟩ := List.mem_map.1 hu
      simp only at hk
      subst hk
      have hn : L[i].Nodup := hr.2.imp (fun {a b} hab e => by subst e; simp [lt] at hab)
      rw [← List.take_append_drop j L[i], List.nodup_append] at hn
      exact absurd rfl (hn.2.2 _ hk2 _ (by have h0 := List.drop_eq_getElem_cons hj; rw [h0]; exact List.mem_cons_self))
  · have h1 := wgt_take hi
    have h2 := wgt_take_le L (i + 1)
    simp only [List.length_append, newFrom_len, setV, List.length_map, List.length_take]
    have : min j L[i].length = j := Nat.min_eq_left (by omega)
    rw [this]
    push_cast
    omega
set_option maxRecDepth 100000 in
set_option maxHeartbeats 4000000 in
theorem admit_any (w : World) (B Mp Mc Mn : Nat) (cap latest floor : Int) (pins : List (Int × Int)) (all : List V4) (nw : List K) (h : BA w B Mp Mc Mn cap latest floor pins all nw) (ao : Option Addr) (n c : Nat) (L : List (List K)) (hn : n = L.length) (hw : RWs (SB B Mp Mc Mn) w ao L) (hin : ∀ s ∈ L, ∀ k ∈ s, KIn k) (hb : ∀ s ∈ L, s.length ≤ 8796093022208) (hnb : n ≤ 1000000000000) :
    Calls Tryz.prog 17 #[ptr B, .slice ao n c] w fun e w' => AdmPost w B Mp Mc Mn cap latest floor pins all L e w' := by
  have HN : Hid (n = L.length ∧ ∀ s ∈ L, ∀ k ∈ s, KIn k) := ⟨hn, hin⟩
  have HA : Hid (∀ W, Below w.heap.size w W → BA W B Mp Mc Mn cap latest floor pins all nw) := fun W hW => h.kept hW
  have HR : Hid (∀ W, Fr (SB B Mp Mc Mn) w W → RWs (SB B Mp Mc Mn) W ao L) := fun W hW => hw.fr hW
  have HF := hidC (checkForm_any (SB B Mp Mc Mn) w ao n c L hn hw hb hnb)
  have hla := h.la
  have hcp := h.cp
  have hal := h.ln
  obtain ⟨fe, hfe⟩ : ∃ fe, fe = formN L := ⟨_, rfl⟩
  have HFe := hidC hfe
  rw [← hfe] at HF
  clear h hw hin hb hn hfe
  go_enter Tryz.func17, Tryz.ntmps17
  go_wp2_with fail
  refine HF.out.mono ?_
  rintro e w1 ⟨rfl, hb1⟩
  have HB1 := hidC hb1
  clear hb1 HF
  by_cases h0 : fe = 0
  · subst h0
    obtain ⟨_, c1, _⟩ := (HA.out w1 HB1.out).cells
    by_cases hl : latest = 1099511627776
    · have HX : Hid (admE cap latest all L = 101) := by show _ = _; unfold admE; rw [← HFe.out, if_neg (by simp), if_pos hl]
      subst hl
      go_wp2
      go_ret2
      exact .inl ⟨by rw [HX.out]; decide, by rw [HX.out]; rfl, HB1.out⟩
    · have hlb : (latest == 1099511627776) = false := by simpa using hl
      have hok := formN_ok HFe.out.symm
      have HOk := hidC hok
      have HW := hidC (weight_any (SB B Mp Mc Mn) w1.drew ao n c L HN.out.1 (HR.out w1.drew (Fr.ofBelow (HB1.out.trans ((drew_below w1 1).mono HB1.out.size)))) (fun s hs => (hok.2 s hs).1) (by have := HN.out.1; omega))
      have hwl := wgt_le hok.1 (fun s hs => (hok.2 s hs).1)
      clear hok
      have HCg : Hid (∀ q, Calls Tryz.prog 41 #[ptr B] (w1.drewN q) fun e w' => e = .returned (.int .i64 (all.length : Int)) ∧ w' = w1.drewN q) := fun q => charge_any (w1.drewN q) B Mp Mc Mn cap latest floor pins all nw (HA.out _ (HB1.out.trans ((drew_below w1 q).mono HB1.out.size)))
      have HWg : Hid (∀ q, Calls Tryz.prog 42 #[.slice ao n c] (w1.drewN q) fun e w' => e = .returned (.int .i64 (wgt L : Int)) ∧ w' = w1.drewN q) := fun q => weight_any (SB B Mp Mc Mn) (w1.drewN q) ao n c L HN.out.1 (HR.out _ (Fr.ofBelow (HB1.out.trans ((drew_below w1 q).mono HB1.out.size)))) (fun s hs => (HOk.out.2 s hs).1) (by have := HN.out.1; have := HOk.out.1; omega)
      obtain ⟨c0, _⟩ := (HA.out w1 HB1.out).cells
      obtain ⟨na, hna⟩ : ∃ na, na = all.length := ⟨_, rfl⟩
      have HNa := hidC hna
      obtain ⟨nl, hnl⟩ : ∃ nl, nl = wgt L := ⟨_, rfl⟩
      have HNl := hidC hnl
      rw [← hna] at HCg hal
      rw [← hnl] at HWg hwl
      clear hna hnl HW
      have hsw : wrap64 ((na : Int) + (nl : Int)) = (na : Int) + (nl : Int) := by unfold wrap64; omega
      go_upto_region 6 with fail
      go_quiet (first | (go_at_call 41; exact Calls.quiet_of_same (HCg.out _)) | (go_at_call 42; exact Calls.quiet_of_same (HWg.out _)))
      have HB2 : Hid (Below w.heap.size w (w1.drewN nq)) := HB1.out.trans ((drew_below w1 nq).mono HB1.out.size)
      have hA2 := HA.out _ HB2.out
      obtain ⟨_, e1, _⟩ := hA2.cells
      have ef := hA2.frozen 1
      by_cases hcap : cap < (na : Int) + (nl : Int)
      · have hcb : decide (cap < (na : Int) + (nl : Int)) = true := decide_eq_true hcap
        have HX : Hid (admE cap latest all L = 100) := by show _ = _; unfold admE; rw [← HFe.out, if_neg (by simp), if_neg hl, if_pos (by rw [← HNa.out, ← HNl.out]; exact hcap)]
        clear hA2 HCg HWg
        go_wp2
        go_ret2
        exact .inl ⟨by rw [HX.out]; decide, by rw [HX.out]; rfl, HB2.out⟩
      · have hcb : decide (cap < (na : Int) + (nl : Int)) = false := decide_eq_false hcap
        have HX : Hid (admE cap latest all L = 0) := by show _ = _; unfold admE; rw [← HFe.out, if_neg (by simp), if_neg hl, if_neg (by rw [← HNa.out, ← HNl.out]; exact hcap)]
        have hlw : wrap64 (latest + 1) = latest + 1 := by unfold wrap64; omega
        have HA3 : Hid (BA ((w1.drewN nq).setCell ⟨B, 1, none⟩ (.int .i64 (latest + 1))) B Mp Mc Mn cap (latest + 1) floor pins all nw ∧ Fr (SB B Mp Mc Mn) w ((w1.drewN nq).setCell ⟨B, 1, none⟩ (.int .i64 (latest + 1)))) := ⟨hA2.setLatest (by omega), (Fr.ofBelow HB2.out).set _ _ (.inr (.inl rfl))⟩
        clear hA2 HCg HWg c0 c1
        generalize hW3 : (w1.drewN nq).setCell ⟨B, 1, none⟩ (.int .i64 (latest + 1)) = W3 at *
        have HAl : Hid (∀ v ∈ all, PlOK latest v) := (HA.out _ HB2.out).pl
        have HCap : Hid ((all.length : Int) + (wgt L : Int) ≤ cap) := by
          have h1 := HNa.out; have h2 := HNl.out
          show _ ≤ _
          omega
        have hnn : n ≤ 64 := by have := HN.out.1; have := HOk.out.1; omega
        go_wp2_with fail
        go_loopw [7, 8, 10, 40] (fun _ _ _ x wr => ∃ i : Nat, i ≤ n ∧ x = .int .i64 (i : Int) ∧ Hid ((∃ nw', BA wr B Mp Mc Mn cap (latest + 1) floor pins (all ++ newFrom (latest + 1) 0 (L.take i)) nw') ∧ Fr (SB B Mp Mc Mn) w wr)) (fun _ _ _ x _ => n - (intOf x).toNat)
        case atStart => exact ⟨0, Nat.zero_le _, rfl, ⟨nw, by simpa [newFrom] using HA3.out.1⟩, HA3.out.2⟩
        case round =>
          obtain ⟨i, hi, rfl, HI⟩ := hrel
          by_cases hlt : i < n
          · have hil : i < L.length := by have := HN.out.1; omega
            obtain ⟨b, off, sa, sc, rfl, hsa, hrow⟩ := (HR.out w (Fr.refl _ _)).at hil
            have HRow := hidC hrow
            have hc1 := (hrow wr HI.out.2).1
            have HSa := hidC hsa
            obtain ⟨s, hs⟩ : ∃ s, s = L[i] := ⟨_, rfl⟩
            have HS : Hid (∃ hi : i < L.length, s = L[i]) := ⟨hil, hs⟩
            rw [← hs] at hc1 HRow HSa
            obtain ⟨m, hm⟩ : ∃ m, m = s.length := ⟨_, rfl⟩
            have HM := hidC hm
            rw [← hm] at hc1
            have hm16 : m ≤ 16 := by rw [hm, hs]; exact (HOk.out.2 _ (List.getElem_mem hil)).1
            clear hrow hsa hs hm
            have hii : (i : Int) < (n : Int) := by omega
            go_wp2_with fail
            go_loopw [10, 47] (fun _ x wr => ∃ j : Nat, j ≤ m ∧ x = .int .i64 (j : Int) ∧ Hid ((∃ nw', BA wr B Mp Mc Mn cap (latest + 1) floor pins (all ++ newFrom (latest + 1) 0 (L.take i) ++ setV (latest + 1) i (s.take j)) nw') ∧ Fr (SB B Mp Mc Mn) w wr)) (fun _ x _ => m - (intOf x).toNat)
            case atStart => exact ⟨0, Nat.zero_le _, rfl, by simpa [setV] using HI.out.1, HI.out.2⟩
            case round =>
              clear HI hc1
              obtain ⟨j, hj, rfl, HJ⟩ := hrel
              by_cases hjm : j < m
              · have hjs : j < s.length := by have := HM.out; omega
                obtain ⟨kb, ko, hsa⟩ := HSa.out j hjs
                subst hsa
                obtain ⟨k, hk⟩ : ∃ k, s[j] = k := ⟨_, rfl⟩
                obtain ⟨k1, k2⟩ := k
                obtain ⟨d1, d2⟩ := keyCells (HRow.out wr HJ.out.2).2 (j := j) (k := (k1, k2)) ⟨hjs, hk⟩
                obtain ⟨⟨nw', hba⟩, hfr⟩ := HJ.out
                obtain ⟨U, hU⟩ : ∃ U, U = wr.alloc (.cells #[.int .i64 k1, .int .i64 k2] 43) := ⟨_, rfl⟩
                have HU : Hid (Below wr.heap.size wr U ∧ U.heap[wr.heap.size]? = some (.cells #[.int .i64 k1, .int .i64 k2] 43 (0, 0))) := by
                  rw [hU]
                  exact ⟨(Below.refl _ _).alloc (Nat.le_refl _) _, heap_alloc_new _ _ rfl⟩
                have HC : Hid (Calls Tryz.prog 38 #[ptr B, .agg #[.int .i64 k1, .int .i64 k2], .agg #[.int .i64 (latest + 1), .int .i64 (i : Int)]] U.drew fun e w' => (∃ x, e = .returned x) ∧ (∃ nw', BA w' B Mp Mc Mn cap (latest + 1) floor pins (all ++ newFrom (latest + 1) 0 (L.take i) ++ setV (latest + 1) i (s.take (j + 1))) nw') ∧ Fr (SB B Mp Mc Mn) w w' ∧ (w'.cell? ⟨B, 1, none⟩ = some (.int .i64 (latest + 1)) ∧ w'.cell? ⟨wr.heap.size, 0, none⟩ = some (.int .i64 k1) ∧ w'.cell? ⟨wr.heap.size, 1, none⟩ = some (.int .i64 k2))) := by
                  obtain ⟨hil, hs⟩ := HS.out
                  subst hs
                  obtain ⟨z1, z2, z3⟩ := adm_next HAl.out hil hjs (HOk.out.2 _ (List.getElem_mem hil)).2 (by omega) HOk.out.1 HCap.out
                  have hki := HN.out.2 _ (List.getElem_mem hil) _ (List.getElem_mem hjs)
                  have hik := (HOk.out.2 _ (List.getElem_mem hil)).2.1 _ (List.getElem_mem hjs)
                  have h1 := count_any U.drew B Mp Mc Mn cap (latest + 1) floor pins _ nw' ((hba.kept HU.out.1).same (fun _ _ => rfl)) (L[i][j], (latest + 1, (i : Int))) ⟨hki, by unfold In64; simp only; omega, by unfold In64; simp only; omega⟩ hik z1 z2 z3
                  rw [setV_take hjs, ← List.append_assoc]
                  rw [hk] at h1 ⊢
                  refine h1.mono fun e w' ⟨a1, a2, a3⟩ => ⟨a1, ⟨_, a2⟩, hfr.trans ((Fr.ofBelow (HU.out.1.trans ((drew_below U 1).mono HU.out.1.size))).trans a3), a2.cells.2.1, ?_⟩
                  have hq : w'.heap[wr.heap.size]? = _ := (a3.block wr.heap.size (blk_lt HU.out.2) (fun hS => by have := hba.lt hS; omega)).trans HU.out.2
                  constructor <;> simp [World.cell?, hq]
                have hbk : (wr.alloc (.cells #[.int .i64 k1, .int .i64 k2] 43)).cell? ⟨B, 1, none⟩ = some (.int .i64 (latest + 1)) := Lib.cell?_alloc_some _ hba.cells.2.1
                have s1 : U.cell? ⟨B, 1, none⟩ = some (.int .i64 (latest + 1)) := by rw [hU]; exact hbk
                have y1 : U.cell? ⟨wr.heap.size, 0, none⟩ = some (.int .i64 k1) := by rw [World.cell?, HU.out.2]; rfl
                have y2 : U.cell? ⟨wr.heap.size, 1, none⟩ = some (.int .i64 k2) := by rw [World.cell?, HU.out.2]; rfl
                have hjj : (j : Int) < (m : Int) := by omega
                clear hba hfr HJ hk hbk hjs
                go_upto_region 15 with fail
                rw [← hU]
                clear hU d1 d2 HU
                generalize wr.heap.size = kbx at *
                go_region_held3 (fun w' => w'.cell? ⟨B, 1, none⟩ = some (.int .i64 (latest + 1)) ∧ w'.cell? ⟨kbx, 0, none⟩ = some (.int .i64 k1) ∧ w'.cell? ⟨kbx, 1, none⟩ = some (.int .i64 k2)) (first | with_reducible exact HQ6.out | go_keep) (first | (go_at_call 38; with_reducible refine HC.out.mono ?_; rintro e w6 ⟨⟨xx, rfl⟩, hnx1, hnx2, hnx3⟩; have HNx := hidC (And.intro hnx1 hnx2); have HQ6 := hidC hnx3; clear hnx1 hnx2 hnx3))
                clear s1 y1 y2 HC HQ6
                go_wp2
                exact ⟨⟨j + 1, by omega, by rw [show ((j + 1 : Nat) : Int) = (j : Int) + 1 by omega], HNx⟩, by simp [intOf]; omega⟩
              · have HNx : Hid ((∃ nw', BA wr B Mp Mc Mn cap (latest + 1) floor pins (all ++ newFrom (latest + 1) 0 (L.take (i + 1))) nw') ∧ Fr (SB B Mp Mc Mn) w wr) := by
                  obtain ⟨hil, hs⟩ := HS.out
                  have h1 := HJ.out.1
                  rw [show s.take j = s from List.take_of_length_le (by have := HM.out; omega), List.append_assoc, hs, ← newFrom_take hil] at h1
                  exact ⟨h1, HJ.out.2⟩
                clear HJ
                go_wp2
                exact ⟨⟨i + 1, by omega, by rw [show ((i + 1 : Nat) : Int) = (i : Int) + 1 by omega], HNx⟩, by simp [intOf]; omega⟩
          · have HFn : Hid ((∃ nw', BA wr B Mp Mc Mn cap (latest + 1) floor pins (all ++ newFrom (latest + 1) 0 L) nw') ∧ Fr (SB B Mp Mc Mn) w wr) := by
              have h1 := HI.out
              rw [List.take_of_length_le (by have := HN.out.1; omega)] at h1
              exact h1
            have e1' : wr.cell? ⟨B, 1, none⟩ = some (.int .i64 (latest + 1)) := by
              obtain ⟨⟨_, h1⟩, _⟩ := HFn.out
              exact h1.cells.2.1
            clear HI
            go_wp2
            go_ret2
            exact .inr ⟨HX.out, rfl, HFn.out.1, HFn.out.2⟩
  · have HX : Hid (admE cap latest all L = fe) := by show _ = _; unfold admE; rw [← HFe.out, if_pos h0]
    have h0b : (fe == 0) = false := by simpa using h0
    have h0c : (fe != 0) = true := by simpa using h0
    go_wp2
    go_ret2
    exact .inl ⟨by rw [HX.out]; exact h0, by rw [HX.out]; rfl, HB1.out⟩
end Go.Proofs.YtbmohlkcmhhpgaaGreat
