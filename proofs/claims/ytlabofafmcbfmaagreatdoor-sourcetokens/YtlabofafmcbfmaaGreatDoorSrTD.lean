/-
  SOURCE: the document's Tokens. By gen_srtd.py.
-/
import Derived.Test.YtlabofafmcbfmaaGreatDoorSrDI
namespace Go.Proofs.YtlabofafmcbfmaaGreatDoor
open Go.RowKit Go.Sort Go.Shelf

set_option maxRecDepth 100000 in
set_option maxHeartbeats 8000000 in
theorem rtokens_any (w : World) (L : List UInt8) (hL : L.length ≤ 65536) : Calls Tryz.prog 4 #[.string (S L)] w fun e w' => RtkPost w (tksA L) e w' := by
  obtain ⟨R, hR⟩ : ∃ R, R = tksA L := ⟨_, rfl⟩
  rw [← hR]
  have HR := hidS hR
  obtain ⟨n, hn⟩ : ∃ n, n = L.length := ⟨_, rfl⟩
  have HN := hidS hn
  have hsz : (S L).size = n := by rw [S_size, hn]
  have hn9 : n ≤ 65536 := by omega
  obtain ⟨W0, hW0⟩ : ∃ W0, W0 = (w.alloc (.cells #[.int .i64 0, .int .i64 0, .int .i64 0] 24)).alloc (.cells #[.int .i64 1, .int .i64 1] 34) := ⟨_, rfl⟩
  obtain ⟨F, hF⟩ : ∃ F, F = w.heap.size := ⟨_, rfl⟩
  obtain ⟨P, hP⟩ : ∃ P, P = w.heap.size + 1 := ⟨_, rfl⟩
  have HD0 : Hid (DI w F P L W0 0 (.slice none 0 0) []) := by
    refine ⟨?_, ?_, OwnT.nil _ _, ?_, by omega, by omega⟩
    · rw [hW0, hF]
      exact ((bel_al (w.alloc _) _).block _ (by simp)).trans (heap_alloc_new _ _ rfl)
    · rw [hW0, hP]
      exact heap_alloc_new _ _ (by simp)
    · rw [hW0]
      exact (bel_al w _).alloc (by simp) _
  have hFP : F < P := by omega
  have HOv : Hid (∀ U k, k ≤ L.length → Calls Tryz.prog 8 #[.string (S L), .int .i64 (k : Int)] U fun e w' => e = .returned (.tuple #[.int .i64 (ovE L k : Nat), .bool (ovB L k)]) ∧ w' = U) := fun U k hk => over_any U L k hk hL
  have HSg : Hid (∀ U k, k < L.length → Calls Tryz.prog 14 #[.string (S L), .int .i64 (k : Int)] U fun e w' => e = .returned (.string (S ((L.drop k).take (sgN (L.drop k))))) ∧ Below U.heap.size U w') := fun U k hk => rsign_any U L k hk hL
  have HL := hidS hL
  clear hR hn hL
  go_enter Tryz.func4, Tryz.ntmps4
  go_wp2_with fail
  rw [← hW0, ← hP, ← hF]
  clear hW0 hF hP
  go_loopw [4, 6, 7] (fun x y z wr => ∃ (a : Option Addr) (nt c m k : Nat), x = .slice a nt c ∧ y = .int .i64 (m : Int) ∧ z = .int .i64 (k : Int) ∧ k ≤ n ∧ m ≤ k ∧ Hid (∃ f acc, DI w F P L wr m (.slice a nt c) acc ∧ R = tkR L f k acc ∧ L.length + 1 ≤ k + f ∧ acc.length ≤ k ∧ nt = acc.length)) (fun _ _ z _ => n + 1 - (intOf z).toNat)
  case atStart => exact ⟨none, 0, 0, 0, 0, rfl, rfl, rfl, by omega, by omega, L.length + 1, [], HD0.out, HR.out, by omega, by simp, rfl⟩
  case round =>
    clear HD0 HR
    obtain ⟨a, nt, c, m, k, rfl, rfl, rfl, hkn, hmk, HI⟩ := hrel
    obtain ⟨f, acc, hdi, hR, hf, hacc, hnt⟩ := HI.out
    have HDI := hidS hdi
    have HOv2 := hidS (HOv.out wr k (by rw [← HN.out]; exact hkn))
    obtain ⟨f', rfl⟩ : ∃ f', f = f' + 1 := ⟨f - 1, by have := HN.out; omega⟩
    have HRk : Hid (R = tkE L f' (ovE L k) acc) := by show R = _; rw [hR, tkR_tkE]; rfl
    have HB : Hid (ovB L k = !([47, 42].isPrefixOf (L.drop (ovE L k)))) := rfl
    have hke : k ≤ ovE L k ∧ ovE L k ≤ n := by
      have h1 := KL_le (L.drop k)
      rw [List.length_drop, ← HN.out] at h1
      unfold ovE
      omega
    have HF := hidS (And.intro hf (And.intro hacc hnt))
    clear hdi hR hf hacc hnt HI
    generalize ovE L k = e at *
    generalize hob : ovB L k = ob at *
    clear hob
    obtain ⟨hke1, hen⟩ := hke
    have hme : m ≤ e := by omega
    go_wp2_with (first | (go_at_call 8; refine HOv2.out.mono ?_; rintro e9 wE ⟨rfl, hwE⟩; have hwE' := hwE.symm; subst hwE'; clear hwE) | fail)
    go_loopw [6] (fun y wq => ∃ (j : Nat), j ≤ e ∧ y = .int .i64 (j : Int) ∧ Hid (DI w F P L wq j (.slice a nt c) acc)) (fun y _ => e - (intOf y).toNat)
    case atStart => exact ⟨m, hme, rfl, HDI.out⟩
    case round =>
      clear HDI
      obtain ⟨j, hje, rfl, HDJ⟩ := hrel
      by_cases hlt : j < e
      · have hjI : (j : Int) < (e : Int) := by omega
        have hjl : j < L.length := by rw [← HN.out]; omega
        have hjS : j < (S L).size := by rw [hsz]; omega
        obtain ⟨d, hd⟩ : ∃ d, d = L[j].toNat := ⟨_, rfl⟩
        have hget : ((S L)[j]'hjS).toNat = d := by rw [hd]; exact congrArg UInt8.toNat (S_get L j hjS)
        obtain ⟨p0, p1, p2, p3⟩ := HDJ.out.pcells
        have hsp := spO_le L j
        have HNx : Hid (spO L (j + 1) = if d = 10 then ((spO L j).1 + 1, 1) else ((spO L j).1, (spO L j).2 + 1)) := by show _ = _; rw [hd]; exact spO_next L j hjl
        have HPb := hidS HDJ.out.pb
        obtain ⟨⟨ql, qc⟩, hq⟩ : ∃ q, q = spO L j := ⟨_, rfl⟩
        rw [← hq] at p0 p1 hsp HNx HPb
        simp only at p0 p1 hsp HNx HPb
        have hqlI : (ql : Int) ≤ 70000 := by omega
        have hqcI : (qc : Int) ≤ 70000 := by omega
        clear hd hq hsp
        by_cases h10 : d = 10
        · have hbI : ((d : Int) == 10) = true := by simp; omega
          have HNx2 : Hid (spO L (j + 1) = (ql + 1, 1)) := by show _ = _; rw [HNx.out, if_pos h10]
          have t1 := pset1 HPb.out (.int .i64 ((qc : Int) + 1))
          have t2 := pset0 t1.2 (.int .i64 ((ql : Int) + 1))
          have t3 := pset1 t2.2 (.int .i64 1)
          have HD3 : Hid (DI w F P L (((wr.setCell ⟨P, 1, none⟩ (.int .i64 ((qc : Int) + 1))).setCell ⟨P, 0, none⟩ (.int .i64 ((ql : Int) + 1))).setCell ⟨P, 1, none⟩ (.int .i64 1)) (j + 1) (.slice a nt c) acc) := HDJ.out.pset ((t1.1.trans t2.1).trans t3.1) (by rw [HNx2.out]; exact t3.2)
          have g1 : (wr.setCell ⟨P, 1, none⟩ (.int .i64 ((qc : Int) + 1))).cell? ⟨P, 0, none⟩ = some (.int .i64 (ql : Int)) := by simp [World.cell?, t1.2]
          have g2 : (wr.setCell ⟨P, 1, none⟩ (.int .i64 ((qc : Int) + 1))).frozen? ⟨P, 0, none⟩ = false := frozen_of_row _ P 0 _ _ t1.2
          have g3 : ((wr.setCell ⟨P, 1, none⟩ (.int .i64 ((qc : Int) + 1))).setCell ⟨P, 0, none⟩ (.int .i64 ((ql : Int) + 1))).frozen? ⟨P, 1, none⟩ = false := frozen_of_row _ P 1 _ _ t2.2
          have g4 : ((wr.setCell ⟨P, 1, none⟩ (.int .i64 ((qc : Int) + 1))).setCell ⟨P, 0, none⟩ (.int .i64 ((ql : Int) + 1))).cell? ⟨P, 1, none⟩ = some (.int .i64 ((qc : Int) + 1)) := by simp [World.cell?, t2.2]
          clear t1 t2 t3 HNx HNx2 h10 HPb HDJ
          go_wp2_with fail
          go_roundw
          case rel => exact ⟨j + 1, by omega, by go_num, HD3.out⟩
          case measure => simp [intOf]; omega
        · have hbI : ((d : Int) == 10) = false := by simp; omega
          have HNx2 : Hid (spO L (j + 1) = (ql, qc + 1)) := by show _ = _; rw [HNx.out, if_neg h10]
          have t1 := pset1 HPb.out (.int .i64 ((qc : Int) + 1))
          have HD3 : Hid (DI w F P L (wr.setCell ⟨P, 1, none⟩ (.int .i64 ((qc : Int) + 1))) (j + 1) (.slice a nt c) acc) := HDJ.out.pset t1.1 (by rw [HNx2.out]; exact t1.2)
          clear t1 HNx HNx2 h10 HPb HDJ
          go_wp2_with fail
          go_roundw
          case rel => exact ⟨j + 1, by omega, by go_num, HD3.out⟩
          case measure => simp [intOf]; omega
      · have hjI : ¬ (j : Int) < (e : Int) := by omega
        obtain rfl : j = e := by omega
        have HKJ := hidS hke1
        clear hjI hlt hje hke1 hme
        obtain ⟨⟨ql, qc⟩, hq⟩ : ∃ q, q = spO L j := ⟨_, rfl⟩
        have HSp : Hid (spO L j = (ql, qc)) := hq.symm
        have HCp : Hid (∀ U, DI w F P L U j (.slice a nt c) acc → U.cell? ⟨P, 0, none⟩ = some (.int .i64 (ql : Int)) ∧ U.cell? ⟨P, 1, none⟩ = some (.int .i64 (qc : Int))) := fun U h => by
          obtain ⟨p0, p1, _, _⟩ := h.pcells
          rw [← hq] at p0 p1
          exact ⟨p0, p1⟩
        obtain ⟨p0, p1⟩ := HCp.out _ HDJ.out
        clear hq
        cases ob with
        | false =>
          have hpre : [47, 42].isPrefixOf (L.drop j) = true := by have h := HB.out; simpa using h.symm
          have HRe : Hid (R = .er (ql, qc) 180) := by
            show R = _
            rw [HRk.out]
            unfold tkE
            rw [if_neg (fun e => by rw [e] at hpre; cases hpre), tokA_com hpre, HSp.out]
          have HDX := HDJ
          clear hpre HB HRk HF
          have HFt : Hid (∀ U, Calls Tryz.prog 9 #[.agg #[.int .i64 (ql : Int), .int .i64 (qc : Int)], .int .i64 180] U fun e w' => e = .returned (.agg #[.int .i64 (ql : Int), .int .i64 (qc : Int), .int .i64 180]) ∧ Below U.heap.size U w') := fun U => rfault_any U ql qc 180
          go_wp2_with fail
          refine (HFt.out _).mono ?_
          rintro e9 w9 ⟨rfl, hb9⟩
          have HD9 := hidS (HDX.out.below hb9)
          obtain ⟨f0, f1, f2, f3, f4, f5⟩ := HD9.out.fcells
          have HE := hidS (HD9.out.fset (.int .i64 (ql : Int)) (.int .i64 (qc : Int)) (.int .i64 180))
          clear hb9 HFt
          go_wp2_with fail
          obtain ⟨s0, s1, s2, hb, _⟩ := HE.out
          exact bodyPost_ret (v := .tuple #[.slice none 0 0, .agg #[.int .i64 (ql : Int), .int .i64 (qc : Int), .int .i64 180]]) (by simp [results, Tryz.results4, go_sem, s0, s1, s2]) rfl (by rw [HRe.out]; exact ⟨rfl, hb⟩)
        | true =>
          have hpre : [47, 42].isPrefixOf (L.drop j) = false := by have h := HB.out; simpa using h.symm
          have HPre := hidS hpre
          clear HB hpre
          by_cases hend : j = n
          · have hb1 : ((j : Int) == (n : Int)) = true := by simp; omega
            have HRe : Hid (R = .ok acc) := by
              show R = _
              rw [HRk.out]
              unfold tkE
              rw [if_pos (List.drop_eq_nil_of_le (by rw [← HN.out]; omega))]
            obtain ⟨f0, f1, f2, f3, f4, f5⟩ := HDJ.out.fcells
            have HE := hidS (HDJ.out.fset (.int .i64 0) (.int .i64 0) (.int .i64 0))
            have HNt : Hid (nt = acc.length) := HF.out.2.2
            have HFP : Hid (w.heap.size ≤ P + 1) := by have h1 := HDJ.out.lo; have h2 := HDJ.out.fp; show _ ≤ _; omega
            clear hend HRk HF HDJ
            go_wp2_with fail
            obtain ⟨s0, s1, s2, hb, ho⟩ := HE.out
            refine bodyPost_ret (v := .tuple #[.slice a nt c, .agg #[.int .i64 0, .int .i64 0, .int .i64 0]]) (by simp [results, Tryz.results4, go_sem, s0, s1, s2]) rfl ?_
            rw [HRe.out]
            refine ⟨a, c, by rw [HNt.out], ?_, hb⟩
            rw [HNt.out] at ho
            exact ownsRow_mono ho HFP.out
          · have hb1 : ((j : Int) == (n : Int)) = false := by simp; omega
            have hjl : j < L.length := by rw [← HN.out]; omega
            have hjS : j < (S L).size := by rw [hsz]; omega
            have HD0 : Hid (L.drop j ≠ []) := by
              show _ ≠ _
              intro e
              have := congrArg List.length e
              rw [List.length_drop] at this
              simp only [List.length_nil] at this
              omega
            obtain ⟨d, hd⟩ : ∃ d, d = L[j].toNat := ⟨_, rfl⟩
            have hget : ((S L)[j]'hjS).toNat = d := by rw [hd]; exact congrArg UInt8.toNat (S_get L j hjS)
            have hd255 : d ≤ 255 := by have := UInt8.toNat_lt L[j]; omega
            have hc0 : c0 (L.drop j) = d := by rw [List.drop_eq_getElem_cons hjl, hd]; rfl
            have HTk : Hid (tokA (L.drop j) = if leC d then .ok (if isOwn ((L.drop j).take (frB woC (L.drop j))) then 2 else 1) ((L.drop j).take (frB woC (L.drop j))) 0
              else if diC d then (if (numO ((L.drop j).take (frB woC (L.drop j)))).2 then .ok 3 ((L.drop j).take (frB woC (L.drop j))) (numO ((L.drop j).take (frB woC (L.drop j)))).1 else .er 41)
              else if sgN (L.drop j) = 0 then .er 180 else .ok 4 ((L.drop j).take (sgN (L.drop j))) 0) := by
              show _ = _
              unfold tokA
              rw [hc0, HPre.out]
              simp only [Bool.false_eq_true, if_false]
            obtain ⟨B, hB⟩ : ∃ B, B = wr.heap.size := ⟨_, rfl⟩
            obtain ⟨W1, hW1⟩ : ∃ W1, W1 = wr.alloc (.cells #[.int .i64 0, .string ⟨#[]⟩, .int .i64 0, .int .i64 (ql : Int), .int .i64 (qc : Int)] 36) := ⟨_, rfl⟩
            have HX1 : Hid (DB w F P L W1 j (.slice a nt c) acc B (.int .i64 0) (.string ⟨#[]⟩) (.int .i64 0) (.int .i64 (ql : Int)) (.int .i64 (qc : Int))) := by
              have h := HDJ.out.box (.int .i64 0) (.string ⟨#[]⟩) (.int .i64 0) (.int .i64 (ql : Int)) (.int .i64 (qc : Int))
              rw [← hW1, ← hB] at h
              exact h
            have HWo : Hid (∀ U, Calls Tryz.prog 10 #[.int .u8 (d : Int)] U fun e w' => e = .returned (.bool (woC d)) ∧ w' = U) := fun U => rwordly_any U d hd255
            have HDg : Hid (∀ U, Calls Tryz.prog 12 #[.int .u8 (d : Int)] U fun e w' => e = .returned (.bool (diC d)) ∧ w' = U) := fun U => rdigit_any U d hd255
            have HSg2 : Hid (∀ U, Calls Tryz.prog 14 #[.string (S L), .int .i64 (j : Int)] U fun e w' => e = .returned (.string (S ((L.drop j).take (sgN (L.drop j))))) ∧ Below U.heap.size U w') := fun U => HSg.out U j hjl
            have HDd := hidS hd
            clear hend hd hc0 HOv HSg
            by_cases hwo : woC d = true ∧ d ≠ 95
            · obtain ⟨hw1, hw95⟩ := hwo
              have h95 : ((d : Int) != 95) = true := by simp; omega
              clear hw95
              by_cases hle : leC d = true
              · have hdi : diC d = false := by
                  have h1 := hle
                  simp only [leC, Bool.or_eq_true, Bool.and_eq_true, decide_eq_true_eq] at h1
                  simp [diC]
                  omega
                rw [hle] at HTk
                simp only [if_true] at HTk
                rw [hdi] at HDg
                clear hle
                obtain ⟨t, ht⟩ : ∃ t, t = (L.drop j).take (frB woC (L.drop j)) := ⟨_, rfl⟩
                rw [← ht] at HTk
                have HTt := hidS ht
                have hfp : 0 < frB woC (L.drop j) := by rw [List.drop_eq_getElem_cons hjl]; exact frB_pos (by have h := hw1; rw [HDd.out] at h; exact h)
                have htl : t.length ≤ 65536 := by rw [ht, List.length_take, List.length_drop]; have := HL.out; omega
                have HOwn : Hid (∀ U, Calls Tryz.prog 11 #[.string (S t)] U fun e w' => e = .returned (.bool (isOwn t)) ∧ Grew U w') := fun U => own_any U t
                have HWq : Hid (∀ q (hq : q < L.length) U, Calls Tryz.prog 10 #[.int .u8 (L[q].toNat : Int)] U fun e w' => e = .returned (.bool (woC L[q].toNat)) ∧ w' = U) := fun q hq U => rwordly_any U L[q].toNat (by have := UInt8.toNat_lt L[q]; omega)
                rw [hw1] at HWo
                clear ht hfp htl hw1 hdi HPre HSg2 HDJ
                go_wp2_with (first | (go_at_call 10; refine (HWo.out _).mono ?_; rintro e9 wE ⟨rfl, hwE⟩; have hwE' := hwE.symm; subst hwE'; clear hwE) | fail)
                rw [← hW1, ← hB]
                have HS1 := HX1
                clear hW1 hB HX1 HWo
                go_loopw [11] (fun x wq => ∃ (q : Nat), j ≤ q ∧ q ≤ n ∧ x = .int .i64 (q : Int) ∧ wq = W1 ∧ Hid (∀ i (hi : i < L.length), j ≤ i → i < q → woC L[i].toNat = true)) (fun x _ => n - (intOf x).toNat)
                case atStart => exact ⟨j, Nat.le_refl _, by omega, rfl, rfl, fun i hi h1 h2 => by omega⟩
                case round =>
                  obtain ⟨q, hjq, hqn, rfl, hwe, HJ⟩ := hrel
                  subst hwe
                  by_cases hlt : q < n
                  · have hqI : (q : Int) < (n : Int) := by omega
                    have hql : q < L.length := by rw [← HN.out]; exact hlt
                    have hqS : q < (S L).size := by rw [hsz]; exact hlt
                    obtain ⟨x, hx⟩ : ∃ x, x = L[q].toNat := ⟨_, rfl⟩
                    have HWq2 : Hid (Calls Tryz.prog 10 #[.int .u8 (x : Int)] wr fun e w' => e = .returned (.bool (woC x)) ∧ w' = wr) := by rw [hx]; exact HWq.out q hql wr
                    have hgetq : ((S L)[q]'hqS).toNat = x := by rw [hx]; exact congrArg UInt8.toNat (S_get L q hqS)
                    have HXx := hidS hx
                    clear hx
                    generalize hbb : woC x = bb at *
                    have HBb := hidS hbb
                    clear hbb
                    cases bb with
                    | true =>
                      have HJ2 : Hid (∀ i (hi : i < L.length), j ≤ i → i < q + 1 → woC L[i].toNat = true) := fun i hi h1 h2 => by
                        by_cases h3 : i < q
                        · exact HJ.out i hi h1 h3
                        · obtain rfl : i = q := by omega
                          have h9 := HBb.out
                          rw [HXx.out] at h9
                          exact h9
                      clear HJ HBb
                      go_wp2_with (first | (go_at_call 10; refine HWq2.out.mono ?_; rintro e9 wE ⟨rfl, hwE⟩; have hwE' := hwE.symm; subst hwE'; clear hwE) | fail)
                      go_roundw
                      case rel => exact ⟨q + 1, by omega, by omega, by go_num, trivial, HJ2⟩
                      case measure => simp [intOf]; omega
                    | false =>
                      have HEnd : Hid (∀ h : q - j < (L.drop j).length, woC ((L.drop j)[q - j]).toNat = false) := fun h => by
                        simp only [List.getElem_drop, show j + (q - j) = q by omega]
                        have h9 := HBb.out
                        rw [HXx.out] at h9
                        exact h9
                      clear HBb HXx
                      have HFr : Hid (frB woC (L.drop j) = q - j) := frB_of woC (L.drop j) (q - j) (by rw [List.length_drop, ← HN.out]; omega) (fun i hi hlt => by
                        rw [List.length_drop] at hi
                        have h := HJ.out (j + i) (by omega) (by omega) (by omega)
                        simp only [List.getElem_drop]
                        exact h) HEnd.out
                      have htq : t = (L.drop j).take (q - j) := by rw [HTt.out, HFr.out]
                      have x1 : (S L).extract j q = S t := by rw [S_cut, List.drop_take, ← htq]
                      obtain ⟨tn, htn⟩ : ∃ tn, tn = t.length := ⟨_, rfl⟩
                      have hst : (S t).size = tn := by rw [S_size, htn]
                      have HTn := hidS htn
                      have hjqI : (j : Int) ≤ (q : Int) := by omega
                      have hqnI : (q : Int) ≤ (n : Int) := by omega
                      clear HFr htq htn HJ HEnd HTt
                      have HX2 := hidS (HS1.out.set1 (.string (S t)))
                      have HX3 := hidS (HX2.out.set0 (.int .i64 1))
                      obtain ⟨⟨k0, k1, k2, k3, k4⟩, g0, g1, g2, g3, g4⟩ := HS1.out.rw.cells
                      obtain ⟨⟨k5, k6, k7, k8, k9⟩, g5, g6, g7, g8, g9⟩ := HX2.out.rw.cells
                      obtain ⟨⟨_, e1, _⟩, _⟩ := HX3.out.rw.cells
                      clear HS1 HX2
                      cases hob : isOwn t with
                      | true =>
                        have HTok : Hid (tokA (L.drop j) = .ok 2 t 0) := by show _ = _; rw [HTk.out, hob]; rfl
                        rw [hob] at HOwn
                        clear hob HTk
                        go_wp2_with (first | (go_at_call 10; refine HWq2.out.mono ?_; rintro e9 wE ⟨rfl, hwE⟩; have hwE' := hwE.symm; subst hwE'; clear hwE) | fail)
                        refine (HOwn.out _).mono ?_
                        rintro e9 w4 ⟨rfl, hg4⟩
                        have HX4 := hidS (HX3.out.below hg4.below)
                        obtain ⟨⟨r0, r1, r2, r3, r4⟩, t0, t1, t2, t3, t4⟩ := HX4.out.rw.cells
                        clear hg4 HX3 HOwn
                        go_upto_region 38 with (first | (go_at_call 12; refine (HDg.out _).mono ?_; rintro e9 wE ⟨rfl, hwE⟩; have hwE' := hwE.symm; subst hwE'; clear hwE) | fail)
                        have HX5 := hidS (HX4.out.set0 (.int .i64 2))
                        clear HX4
                        have HX := HX5
                        generalize w4.setCell ⟨B, 0, none⟩ (.int .i64 2) = WX at *
                        obtain ⟨⟨d0, d1, d2, d3, d4⟩, _⟩ := HX.out.rw.cells
                        have hOw := HX.out.di.own
                        unfold OwnT at hOw
                        rw [← HF.out.2.2] at hOw
                        have HOw := hidS hOw
                        clear hOw
                        have hnt9 : nt ≤ 65536 := by have h1 := HF.out; have h2 := HL.out; omega
                        have hsz5 := blk_lt HX.out.di.pb
                        obtain ⟨i0, ii, ie⟩ := Option.map_eq_some_iff.1 info_tok
                        simp only [Prod.mk.injEq] at ie
                        obtain ⟨iz0, iz1, iz2⟩ := ie
                        have HPos2 := hidS (tokA_pos HD0.out HTok.out)
                        have hjt : j + tn ≤ n := by have h4 := HPos2.out.2.1; have h5 := HTn.out; have h6 := HN.out; rw [List.length_drop] at h4; omega
                        have htp : 0 < tn := by have h4 := HPos2.out.1; have h5 := HTn.out; omega
                        have hjtI : (j : Int) + (tn : Int) ≤ 65536 := by omega
                        have hwj : IntKind.i64.wrap ((j : Int) + (tn : Int)) = (j : Int) + (tn : Int) := by rw [IntKind.wrap_i64]; omega
                        go_wp2_with (first
                          | (at_builtin; refine wpList_append_gen rfl _ _ 22 36 i0 (.agg #[.int .i64 0, .string ⟨#[]⟩, .int .i64 0, .int .i64 0, .int .i64 0]) 5 48 Tryz.underlying22 ii iz0 iz1 iz2 rfl (by decide) rfl (P + 1) (.slice a nt c) nt (tkc acc) rfl (World.ownsRow.alloc HOw.out _) ⟨WX.heap.size, 0, none⟩ 1 1 [.int .i64 2, .string (S t), .int .i64 0, .int .i64 (ql : Int), .int .i64 (qc : Int)] rfl rfl (src_at WX _ _) (by intro u hu; simp at hu; rcases hu with rfl | rfl | rfl | rfl | rfl <;> rfl) (by unfold maxLen; omega) (by omega) (Nat.le_trans hsz5 (bel_al WX _).size) ?_; intro v7 w7 h1 h2; have e1 : w7.cell? ⟨B, 1, none⟩ = some (.string (S t)) := (cell_blk (h2.block B (Nat.lt_of_lt_of_le (blk_lt HX.out.rw) (bel_al WX _).size) (fun e => by have h9 := HX.out.ob B e.symm; omega)) 1).trans ((cell_blk ((bel_al WX _).block B (blk_lt HX.out.rw)) 1).trans d1))
                          | fail)
                        obtain ⟨a7, c7, hv7, _⟩ := own_slice h1
                        subst hv7
                        have HF7 : Hid (∃ f acc, DI w F P L w7 j (.slice a7 (nt + 1) c7) acc ∧ R = tkR L f (j + tn) acc ∧ L.length + 1 ≤ j + tn + f ∧ acc.length ≤ j + tn ∧ nt + 1 = acc.length) := by
                          have h3 := HF.out
                          have h4 := HPos2.out
                          have h5 := HTn.out
                          have h6 := HKJ.out
                          rw [List.length_drop] at h4
                          refine ⟨f', acc ++ [(2, t, 0, ql, qc)], (HX.out.di.below (bel_al WX _)).app ?_ h2, ?_, by omega, ?_, ?_⟩
                          · unfold OwnT
                            rw [tkc_app, tkc_one, List.length_append, ← h3.2.2]
                            exact h1
                          · rw [HRk.out]
                            unfold tkE
                            rw [if_neg HD0.out, HTok.out, HSp.out]
                            show tkR L f' (j + t.length) _ = _
                            rw [h5]
                          · rw [List.length_append, List.length_singleton]; omega
                          · rw [List.length_append, List.length_singleton, ← h3.2.2]
                        clear h1 h2
                        go_wp2_with fail
                        go_roundw
                        case rel => exact ⟨a7, nt + 1, c7, j, j + tn, rfl, rfl, by go_num, by omega, by omega, HF7.out⟩
                        case measure =>
                          have hkj9 := HKJ.out
                          simp [intOf]; omega
                      | false =>
                        have HTok : Hid (tokA (L.drop j) = .ok 1 t 0) := by show _ = _; rw [HTk.out, hob]; rfl
                        rw [hob] at HOwn
                        clear hob HTk
                        go_wp2_with (first | (go_at_call 10; refine HWq2.out.mono ?_; rintro e9 wE ⟨rfl, hwE⟩; have hwE' := hwE.symm; subst hwE'; clear hwE) | fail)
                        refine (HOwn.out _).mono ?_
                        rintro e9 w4 ⟨rfl, hg4⟩
                        have HX4 := hidS (HX3.out.below hg4.below)
                        obtain ⟨⟨r0, r1, r2, r3, r4⟩, t0, t1, t2, t3, t4⟩ := HX4.out.rw.cells
                        clear hg4 HX3 HOwn
                        go_upto_region 38 with (first | (go_at_call 12; refine (HDg.out _).mono ?_; rintro e9 wE ⟨rfl, hwE⟩; have hwE' := hwE.symm; subst hwE'; clear hwE) | fail)
                        have HX := HX4
                        clear HX4
                        generalize w4 = WX at *
                        obtain ⟨⟨d0, d1, d2, d3, d4⟩, _⟩ := HX.out.rw.cells
                        have hOw := HX.out.di.own
                        unfold OwnT at hOw
                        rw [← HF.out.2.2] at hOw
                        have HOw := hidS hOw
                        clear hOw
                        have hnt9 : nt ≤ 65536 := by have h1 := HF.out; have h2 := HL.out; omega
                        have hsz5 := blk_lt HX.out.di.pb
                        obtain ⟨i0, ii, ie⟩ := Option.map_eq_some_iff.1 info_tok
                        simp only [Prod.mk.injEq] at ie
                        obtain ⟨iz0, iz1, iz2⟩ := ie
                        have HPos2 := hidS (tokA_pos HD0.out HTok.out)
                        have hjt : j + tn ≤ n := by have h4 := HPos2.out.2.1; have h5 := HTn.out; have h6 := HN.out; rw [List.length_drop] at h4; omega
                        have htp : 0 < tn := by have h4 := HPos2.out.1; have h5 := HTn.out; omega
                        have hjtI : (j : Int) + (tn : Int) ≤ 65536 := by omega
                        have hwj : IntKind.i64.wrap ((j : Int) + (tn : Int)) = (j : Int) + (tn : Int) := by rw [IntKind.wrap_i64]; omega
                        go_wp2_with (first
                          | (at_builtin; refine wpList_append_gen rfl _ _ 22 36 i0 (.agg #[.int .i64 0, .string ⟨#[]⟩, .int .i64 0, .int .i64 0, .int .i64 0]) 5 48 Tryz.underlying22 ii iz0 iz1 iz2 rfl (by decide) rfl (P + 1) (.slice a nt c) nt (tkc acc) rfl (World.ownsRow.alloc HOw.out _) ⟨WX.heap.size, 0, none⟩ 1 1 [.int .i64 1, .string (S t), .int .i64 0, .int .i64 (ql : Int), .int .i64 (qc : Int)] rfl rfl (src_at WX _ _) (by intro u hu; simp at hu; rcases hu with rfl | rfl | rfl | rfl | rfl <;> rfl) (by unfold maxLen; omega) (by omega) (Nat.le_trans hsz5 (bel_al WX _).size) ?_; intro v7 w7 h1 h2; have e1 : w7.cell? ⟨B, 1, none⟩ = some (.string (S t)) := (cell_blk (h2.block B (Nat.lt_of_lt_of_le (blk_lt HX.out.rw) (bel_al WX _).size) (fun e => by have h9 := HX.out.ob B e.symm; omega)) 1).trans ((cell_blk ((bel_al WX _).block B (blk_lt HX.out.rw)) 1).trans d1))
                          | fail)
                        obtain ⟨a7, c7, hv7, _⟩ := own_slice h1
                        subst hv7
                        have HF7 : Hid (∃ f acc, DI w F P L w7 j (.slice a7 (nt + 1) c7) acc ∧ R = tkR L f (j + tn) acc ∧ L.length + 1 ≤ j + tn + f ∧ acc.length ≤ j + tn ∧ nt + 1 = acc.length) := by
                          have h3 := HF.out
                          have h4 := HPos2.out
                          have h5 := HTn.out
                          have h6 := HKJ.out
                          rw [List.length_drop] at h4
                          refine ⟨f', acc ++ [(1, t, 0, ql, qc)], (HX.out.di.below (bel_al WX _)).app ?_ h2, ?_, by omega, ?_, ?_⟩
                          · unfold OwnT
                            rw [tkc_app, tkc_one, List.length_append, ← h3.2.2]
                            exact h1
                          · rw [HRk.out]
                            unfold tkE
                            rw [if_neg HD0.out, HTok.out, HSp.out]
                            show tkR L f' (j + t.length) _ = _
                            rw [h5]
                          · rw [List.length_append, List.length_singleton]; omega
                          · rw [List.length_append, List.length_singleton, ← h3.2.2]
                        clear h1 h2
                        go_wp2_with fail
                        go_roundw
                        case rel => exact ⟨a7, nt + 1, c7, j, j + tn, rfl, rfl, by go_num, by omega, by omega, HF7.out⟩
                        case measure =>
                          have hkj9 := HKJ.out
                          simp [intOf]; omega
                  · have hqI : ¬ (q : Int) < (n : Int) := by omega
                    have HEnd : Hid (∀ h : q - j < (L.drop j).length, woC ((L.drop j)[q - j]).toNat = false) := fun h => by
                      exfalso
                      rw [List.length_drop, ← HN.out] at h
                      omega
                    clear hlt
                    have HFr : Hid (frB woC (L.drop j) = q - j) := frB_of woC (L.drop j) (q - j) (by rw [List.length_drop, ← HN.out]; omega) (fun i hi hlt => by
                      rw [List.length_drop] at hi
                      have h := HJ.out (j + i) (by omega) (by omega) (by omega)
                      simp only [List.getElem_drop]
                      exact h) HEnd.out
                    have htq : t = (L.drop j).take (q - j) := by rw [HTt.out, HFr.out]
                    have x1 : (S L).extract j q = S t := by rw [S_cut, List.drop_take, ← htq]
                    obtain ⟨tn, htn⟩ : ∃ tn, tn = t.length := ⟨_, rfl⟩
                    have hst : (S t).size = tn := by rw [S_size, htn]
                    have HTn := hidS htn
                    have hjqI : (j : Int) ≤ (q : Int) := by omega
                    have hqnI : (q : Int) ≤ (n : Int) := by omega
                    clear HFr htq htn HJ HEnd HTt
                    have HX2 := hidS (HS1.out.set1 (.string (S t)))
                    have HX3 := hidS (HX2.out.set0 (.int .i64 1))
                    obtain ⟨⟨k0, k1, k2, k3, k4⟩, g0, g1, g2, g3, g4⟩ := HS1.out.rw.cells
                    obtain ⟨⟨k5, k6, k7, k8, k9⟩, g5, g6, g7, g8, g9⟩ := HX2.out.rw.cells
                    obtain ⟨⟨_, e1, _⟩, _⟩ := HX3.out.rw.cells
                    clear HS1 HX2
                    cases hob : isOwn t with
                    | true =>
                      have HTok : Hid (tokA (L.drop j) = .ok 2 t 0) := by show _ = _; rw [HTk.out, hob]; rfl
                      rw [hob] at HOwn
                      clear hob HTk
                      go_wp2_with fail
                      refine (HOwn.out _).mono ?_
                      rintro e9 w4 ⟨rfl, hg4⟩
                      have HX4 := hidS (HX3.out.below hg4.below)
                      obtain ⟨⟨r0, r1, r2, r3, r4⟩, t0, t1, t2, t3, t4⟩ := HX4.out.rw.cells
                      clear hg4 HX3 HOwn
                      go_upto_region 38 with (first | (go_at_call 12; refine (HDg.out _).mono ?_; rintro e9 wE ⟨rfl, hwE⟩; have hwE' := hwE.symm; subst hwE'; clear hwE) | fail)
                      have HX5 := hidS (HX4.out.set0 (.int .i64 2))
                      clear HX4
                      have HX := HX5
                      generalize w4.setCell ⟨B, 0, none⟩ (.int .i64 2) = WX at *
                      obtain ⟨⟨d0, d1, d2, d3, d4⟩, _⟩ := HX.out.rw.cells
                      have hOw := HX.out.di.own
                      unfold OwnT at hOw
                      rw [← HF.out.2.2] at hOw
                      have HOw := hidS hOw
                      clear hOw
                      have hnt9 : nt ≤ 65536 := by have h1 := HF.out; have h2 := HL.out; omega
                      have hsz5 := blk_lt HX.out.di.pb
                      obtain ⟨i0, ii, ie⟩ := Option.map_eq_some_iff.1 info_tok
                      simp only [Prod.mk.injEq] at ie
                      obtain ⟨iz0, iz1, iz2⟩ := ie
                      have HPos2 := hidS (tokA_pos HD0.out HTok.out)
                      have hjt : j + tn ≤ n := by have h4 := HPos2.out.2.1; have h5 := HTn.out; have h6 := HN.out; rw [List.length_drop] at h4; omega
                      have htp : 0 < tn := by have h4 := HPos2.out.1; have h5 := HTn.out; omega
                      have hjtI : (j : Int) + (tn : Int) ≤ 65536 := by omega
                      have hwj : IntKind.i64.wrap ((j : Int) + (tn : Int)) = (j : Int) + (tn : Int) := by rw [IntKind.wrap_i64]; omega
                      go_wp2_with (first
                        | (at_builtin; refine wpList_append_gen rfl _ _ 22 36 i0 (.agg #[.int .i64 0, .string ⟨#[]⟩, .int .i64 0, .int .i64 0, .int .i64 0]) 5 48 Tryz.underlying22 ii iz0 iz1 iz2 rfl (by decide) rfl (P + 1) (.slice a nt c) nt (tkc acc) rfl (World.ownsRow.alloc HOw.out _) ⟨WX.heap.size, 0, none⟩ 1 1 [.int .i64 2, .string (S t), .int .i64 0, .int .i64 (ql : Int), .int .i64 (qc : Int)] rfl rfl (src_at WX _ _) (by intro u hu; simp at hu; rcases hu with rfl | rfl | rfl | rfl | rfl <;> rfl) (by unfold maxLen; omega) (by omega) (Nat.le_trans hsz5 (bel_al WX _).size) ?_; intro v7 w7 h1 h2; have e1 : w7.cell? ⟨B, 1, none⟩ = some (.string (S t)) := (cell_blk (h2.block B (Nat.lt_of_lt_of_le (blk_lt HX.out.rw) (bel_al WX _).size) (fun e => by have h9 := HX.out.ob B e.symm; omega)) 1).trans ((cell_blk ((bel_al WX _).block B (blk_lt HX.out.rw)) 1).trans d1))
                        | fail)
                      obtain ⟨a7, c7, hv7, _⟩ := own_slice h1
                      subst hv7
                      have HF7 : Hid (∃ f acc, DI w F P L w7 j (.slice a7 (nt + 1) c7) acc ∧ R = tkR L f (j + tn) acc ∧ L.length + 1 ≤ j + tn + f ∧ acc.length ≤ j + tn ∧ nt + 1 = acc.length) := by
                        have h3 := HF.out
                        have h4 := HPos2.out
                        have h5 := HTn.out
                        have h6 := HKJ.out
                        rw [List.length_drop] at h4
                        refine ⟨f', acc ++ [(2, t, 0, ql, qc)], (HX.out.di.below (bel_al WX _)).app ?_ h2, ?_, by omega, ?_, ?_⟩
                        · unfold OwnT
                          rw [tkc_app, tkc_one, List.length_append, ← h3.2.2]
                          exact h1
                        · rw [HRk.out]
                          unfold tkE
                          rw [if_neg HD0.out, HTok.out, HSp.out]
                          show tkR L f' (j + t.length) _ = _
                          rw [h5]
                        · rw [List.length_append, List.length_singleton]; omega
                        · rw [List.length_append, List.length_singleton, ← h3.2.2]
                      clear h1 h2
                      go_wp2_with fail
                      go_roundw
                      case rel => exact ⟨a7, nt + 1, c7, j, j + tn, rfl, rfl, by go_num, by omega, by omega, HF7.out⟩
                      case measure =>
                        have hkj9 := HKJ.out
                        simp [intOf]; omega
                    | false =>
                      have HTok : Hid (tokA (L.drop j) = .ok 1 t 0) := by show _ = _; rw [HTk.out, hob]; rfl
                      rw [hob] at HOwn
                      clear hob HTk
                      go_wp2_with fail
                      refine (HOwn.out _).mono ?_
                      rintro e9 w4 ⟨rfl, hg4⟩
                      have HX4 := hidS (HX3.out.below hg4.below)
                      obtain ⟨⟨r0, r1, r2, r3, r4⟩, t0, t1, t2, t3, t4⟩ := HX4.out.rw.cells
                      clear hg4 HX3 HOwn
                      go_upto_region 38 with (first | (go_at_call 12; refine (HDg.out _).mono ?_; rintro e9 wE ⟨rfl, hwE⟩; have hwE' := hwE.symm; subst hwE'; clear hwE) | fail)
                      have HX := HX4
                      clear HX4
                      generalize w4 = WX at *
                      obtain ⟨⟨d0, d1, d2, d3, d4⟩, _⟩ := HX.out.rw.cells
                      have hOw := HX.out.di.own
                      unfold OwnT at hOw
                      rw [← HF.out.2.2] at hOw
                      have HOw := hidS hOw
                      clear hOw
                      have hnt9 : nt ≤ 65536 := by have h1 := HF.out; have h2 := HL.out; omega
                      have hsz5 := blk_lt HX.out.di.pb
                      obtain ⟨i0, ii, ie⟩ := Option.map_eq_some_iff.1 info_tok
                      simp only [Prod.mk.injEq] at ie
                      obtain ⟨iz0, iz1, iz2⟩ := ie
                      have HPos2 := hidS (tokA_pos HD0.out HTok.out)
                      have hjt : j + tn ≤ n := by have h4 := HPos2.out.2.1; have h5 := HTn.out; have h6 := HN.out; rw [List.length_drop] at h4; omega
                      have htp : 0 < tn := by have h4 := HPos2.out.1; have h5 := HTn.out; omega
                      have hjtI : (j : Int) + (tn : Int) ≤ 65536 := by omega
                      have hwj : IntKind.i64.wrap ((j : Int) + (tn : Int)) = (j : Int) + (tn : Int) := by rw [IntKind.wrap_i64]; omega
                      go_wp2_with (first
                        | (at_builtin; refine wpList_append_gen rfl _ _ 22 36 i0 (.agg #[.int .i64 0, .string ⟨#[]⟩, .int .i64 0, .int .i64 0, .int .i64 0]) 5 48 Tryz.underlying22 ii iz0 iz1 iz2 rfl (by decide) rfl (P + 1) (.slice a nt c) nt (tkc acc) rfl (World.ownsRow.alloc HOw.out _) ⟨WX.heap.size, 0, none⟩ 1 1 [.int .i64 1, .string (S t), .int .i64 0, .int .i64 (ql : Int), .int .i64 (qc : Int)] rfl rfl (src_at WX _ _) (by intro u hu; simp at hu; rcases hu with rfl | rfl | rfl | rfl | rfl <;> rfl) (by unfold maxLen; omega) (by omega) (Nat.le_trans hsz5 (bel_al WX _).size) ?_; intro v7 w7 h1 h2; have e1 : w7.cell? ⟨B, 1, none⟩ = some (.string (S t)) := (cell_blk (h2.block B (Nat.lt_of_lt_of_le (blk_lt HX.out.rw) (bel_al WX _).size) (fun e => by have h9 := HX.out.ob B e.symm; omega)) 1).trans ((cell_blk ((bel_al WX _).block B (blk_lt HX.out.rw)) 1).trans d1))
                        | fail)
                      obtain ⟨a7, c7, hv7, _⟩ := own_slice h1
                      subst hv7
                      have HF7 : Hid (∃ f acc, DI w F P L w7 j (.slice a7 (nt + 1) c7) acc ∧ R = tkR L f (j + tn) acc ∧ L.length + 1 ≤ j + tn + f ∧ acc.length ≤ j + tn ∧ nt + 1 = acc.length) := by
                        have h3 := HF.out
                        have h4 := HPos2.out
                        have h5 := HTn.out
                        have h6 := HKJ.out
                        rw [List.length_drop] at h4
                        refine ⟨f', acc ++ [(1, t, 0, ql, qc)], (HX.out.di.below (bel_al WX _)).app ?_ h2, ?_, by omega, ?_, ?_⟩
                        · unfold OwnT
                          rw [tkc_app, tkc_one, List.length_append, ← h3.2.2]
                          exact h1
                        · rw [HRk.out]
                          unfold tkE
                          rw [if_neg HD0.out, HTok.out, HSp.out]
                          show tkR L f' (j + t.length) _ = _
                          rw [h5]
                        · rw [List.length_append, List.length_singleton]; omega
                        · rw [List.length_append, List.length_singleton, ← h3.2.2]
                      clear h1 h2
                      go_wp2_with fail
                      go_roundw
                      case rel => exact ⟨a7, nt + 1, c7, j, j + tn, rfl, rfl, by go_num, by omega, by omega, HF7.out⟩
                      case measure =>
                        have hkj9 := HKJ.out
                        simp [intOf]; omega
              · have hle' : leC d = false := by simpa using hle
                have hdi : diC d = true := by
                  have h1 := hw1
                  simp only [woC, hle', Bool.false_or, Bool.or_eq_true, decide_eq_true_eq] at h1
                  rcases h1 with h1 | h1
                  · exact h1
                  · rw [h1] at h95; cases h95
                rw [hle', hdi] at HTk
                simp only [Bool.false_eq_true, if_false, if_true] at HTk
                rw [hdi] at HDg
                clear hle hle'
                obtain ⟨t, ht⟩ : ∃ t, t = (L.drop j).take (frB woC (L.drop j)) := ⟨_, rfl⟩
                rw [← ht] at HTk
                have HTt := hidS ht
                have hfp : 0 < frB woC (L.drop j) := by rw [List.drop_eq_getElem_cons hjl]; exact frB_pos (by have h := hw1; rw [HDd.out] at h; exact h)
                have htl : t.length ≤ 65536 := by rw [ht, List.length_take, List.length_drop]; have := HL.out; omega
                have hot : isOwn t = false := own_digit (by rw [ht, c0_take hfp, List.drop_eq_getElem_cons hjl]; show diC L[j].toNat = true; have h := hdi; rw [HDd.out] at h; exact h)
                have HOwn : Hid (∀ U, Calls Tryz.prog 11 #[.string (S t)] U fun e w' => e = .returned (.bool false) ∧ Grew U w') := fun U => by rw [← hot]; exact own_any U t
                have HNum : Hid (∀ U, Calls Tryz.prog 13 #[.string (S t)] U fun e w' => e = .returned (.tuple #[.int .i64 (numO t).1, .bool (numO t).2]) ∧ Below U.heap.size U w') := fun U => rnumber_any U t htl
                clear hot
                have HWq : Hid (∀ q (hq : q < L.length) U, Calls Tryz.prog 10 #[.int .u8 (L[q].toNat : Int)] U fun e w' => e = .returned (.bool (woC L[q].toNat)) ∧ w' = U) := fun q hq U => rwordly_any U L[q].toNat (by have := UInt8.toNat_lt L[q]; omega)
                rw [hw1] at HWo
                clear ht hfp htl hw1 hdi HPre HSg2 HDJ
                go_wp2_with (first | (go_at_call 10; refine (HWo.out _).mono ?_; rintro e9 wE ⟨rfl, hwE⟩; have hwE' := hwE.symm; subst hwE'; clear hwE) | fail)
                rw [← hW1, ← hB]
                have HS1 := HX1
                clear hW1 hB HX1 HWo
                go_loopw [11] (fun x wq => ∃ (q : Nat), j ≤ q ∧ q ≤ n ∧ x = .int .i64 (q : Int) ∧ wq = W1 ∧ Hid (∀ i (hi : i < L.length), j ≤ i → i < q → woC L[i].toNat = true)) (fun x _ => n - (intOf x).toNat)
                case atStart => exact ⟨j, Nat.le_refl _, by omega, rfl, rfl, fun i hi h1 h2 => by omega⟩
                case round =>
                  obtain ⟨q, hjq, hqn, rfl, hwe, HJ⟩ := hrel
                  subst hwe
                  by_cases hlt : q < n
                  · have hqI : (q : Int) < (n : Int) := by omega
                    have hql : q < L.length := by rw [← HN.out]; exact hlt
                    have hqS : q < (S L).size := by rw [hsz]; exact hlt
                    obtain ⟨x, hx⟩ : ∃ x, x = L[q].toNat := ⟨_, rfl⟩
                    have HWq2 : Hid (Calls Tryz.prog 10 #[.int .u8 (x : Int)] wr fun e w' => e = .returned (.bool (woC x)) ∧ w' = wr) := by rw [hx]; exact HWq.out q hql wr
                    have hgetq : ((S L)[q]'hqS).toNat = x := by rw [hx]; exact congrArg UInt8.toNat (S_get L q hqS)
                    have HXx := hidS hx
                    clear hx
                    generalize hbb : woC x = bb at *
                    have HBb := hidS hbb
                    clear hbb
                    cases bb with
                    | true =>
                      have HJ2 : Hid (∀ i (hi : i < L.length), j ≤ i → i < q + 1 → woC L[i].toNat = true) := fun i hi h1 h2 => by
                        by_cases h3 : i < q
                        · exact HJ.out i hi h1 h3
                        · obtain rfl : i = q := by omega
                          have h9 := HBb.out
                          rw [HXx.out] at h9
                          exact h9
                      clear HJ HBb
                      go_wp2_with (first | (go_at_call 10; refine HWq2.out.mono ?_; rintro e9 wE ⟨rfl, hwE⟩; have hwE' := hwE.symm; subst hwE'; clear hwE) | fail)
                      go_roundw
                      case rel => exact ⟨q + 1, by omega, by omega, by go_num, trivial, HJ2⟩
                      case measure => simp [intOf]; omega
                    | false =>
                      have HEnd : Hid (∀ h : q - j < (L.drop j).length, woC ((L.drop j)[q - j]).toNat = false) := fun h => by
                        simp only [List.getElem_drop, show j + (q - j) = q by omega]
                        have h9 := HBb.out
                        rw [HXx.out] at h9
                        exact h9
                      clear HBb HXx
                      have HFr : Hid (frB woC (L.drop j) = q - j) := frB_of woC (L.drop j) (q - j) (by rw [List.length_drop, ← HN.out]; omega) (fun i hi hlt => by
                        rw [List.length_drop] at hi
                        have h := HJ.out (j + i) (by omega) (by omega) (by omega)
                        simp only [List.getElem_drop]
                        exact h) HEnd.out
                      have htq : t = (L.drop j).take (q - j) := by rw [HTt.out, HFr.out]
                      have x1 : (S L).extract j q = S t := by rw [S_cut, List.drop_take, ← htq]
                      obtain ⟨tn, htn⟩ : ∃ tn, tn = t.length := ⟨_, rfl⟩
                      have hst : (S t).size = tn := by rw [S_size, htn]
                      have HTn := hidS htn
                      have hjqI : (j : Int) ≤ (q : Int) := by omega
                      have hqnI : (q : Int) ≤ (n : Int) := by omega
                      clear HFr htq htn HJ HEnd HTt
                      have HX2 := hidS (HS1.out.set1 (.string (S t)))
                      have HX3 := hidS (HX2.out.set0 (.int .i64 1))
                      obtain ⟨⟨k0, k1, k2, k3, k4⟩, g0, g1, g2, g3, g4⟩ := HS1.out.rw.cells
                      obtain ⟨⟨k5, k6, k7, k8, k9⟩, g5, g6, g7, g8, g9⟩ := HX2.out.rw.cells
                      obtain ⟨⟨_, e1, _⟩, _⟩ := HX3.out.rw.cells
                      clear HS1 HX2
                      obtain ⟨⟨nv, good⟩, hnv⟩ : ∃ q, q = numO t := ⟨_, rfl⟩
                      rw [← hnv] at HTk HNum
                      simp only at HTk HNum
                      clear hnv
                      cases good with
                      | true =>
                        have HTok : Hid (tokA (L.drop j) = .ok 3 t nv) := by show _ = _; rw [HTk.out]; rfl
                        clear HTk
                        go_wp2_with (first | (go_at_call 10; refine HWq2.out.mono ?_; rintro e9 wE ⟨rfl, hwE⟩; have hwE' := hwE.symm; subst hwE'; clear hwE) | fail)
                        refine (HOwn.out _).mono ?_
                        rintro e9 w4 ⟨rfl, hg4⟩
                        have HX4 := hidS (HX3.out.below hg4.below)
                        obtain ⟨⟨r0, r1, r2, r3, r4⟩, t0, t1, t2, t3, t4⟩ := HX4.out.rw.cells
                        clear hg4 HX3 HOwn
                        go_wp2_with (first | (go_at_call 12; refine (HDg.out _).mono ?_; rintro e9 wE ⟨rfl, hwE⟩; have hwE' := hwE.symm; subst hwE'; clear hwE) | fail)
                        refine (HNum.out _).mono ?_
                        rintro e9 w5 ⟨rfl, hb5⟩
                        have HX5 := hidS (HX4.out.below hb5)
                        obtain ⟨⟨y0, y1, y2, y3, y4⟩, z0, z1, z2, z3, z4⟩ := HX5.out.rw.cells
                        clear hb5 HX4 HNum
                        have HX6 := hidS (HX5.out.set0 (.int .i64 3))
                        have HX7 := hidS (HX6.out.set2 (.int .i64 nv))
                        obtain ⟨⟨n0, n1, n2, n3, n4⟩, m0, m1, m2, m3, m4⟩ := HX6.out.rw.cells
                        clear HX5 HX6
                        have HX := HX7
                        go_upto_region 38 with fail
                        generalize (w5.setCell ⟨B, 0, none⟩ (.int .i64 3)).setCell ⟨B, 2, none⟩ (.int .i64 nv) = WX at *
                        obtain ⟨⟨d0, d1, d2, d3, d4⟩, _⟩ := HX.out.rw.cells
                        have hOw := HX.out.di.own
                        unfold OwnT at hOw
                        rw [← HF.out.2.2] at hOw
                        have HOw := hidS hOw
                        clear hOw
                        have hnt9 : nt ≤ 65536 := by have h1 := HF.out; have h2 := HL.out; omega
                        have hsz5 := blk_lt HX.out.di.pb
                        obtain ⟨i0, ii, ie⟩ := Option.map_eq_some_iff.1 info_tok
                        simp only [Prod.mk.injEq] at ie
                        obtain ⟨iz0, iz1, iz2⟩ := ie
                        have HPos2 := hidS (tokA_pos HD0.out HTok.out)
                        have hjt : j + tn ≤ n := by have h4 := HPos2.out.2.1; have h5 := HTn.out; have h6 := HN.out; rw [List.length_drop] at h4; omega
                        have htp : 0 < tn := by have h4 := HPos2.out.1; have h5 := HTn.out; omega
                        have hjtI : (j : Int) + (tn : Int) ≤ 65536 := by omega
                        have hwj : IntKind.i64.wrap ((j : Int) + (tn : Int)) = (j : Int) + (tn : Int) := by rw [IntKind.wrap_i64]; omega
                        go_wp2_with (first
                          | (at_builtin; refine wpList_append_gen rfl _ _ 22 36 i0 (.agg #[.int .i64 0, .string ⟨#[]⟩, .int .i64 0, .int .i64 0, .int .i64 0]) 5 48 Tryz.underlying22 ii iz0 iz1 iz2 rfl (by decide) rfl (P + 1) (.slice a nt c) nt (tkc acc) rfl (World.ownsRow.alloc HOw.out _) ⟨WX.heap.size, 0, none⟩ 1 1 [.int .i64 3, .string (S t), .int .i64 nv, .int .i64 (ql : Int), .int .i64 (qc : Int)] rfl rfl (src_at WX _ _) (by intro u hu; simp at hu; rcases hu with rfl | rfl | rfl | rfl | rfl <;> rfl) (by unfold maxLen; omega) (by omega) (Nat.le_trans hsz5 (bel_al WX _).size) ?_; intro v7 w7 h1 h2; have e1 : w7.cell? ⟨B, 1, none⟩ = some (.string (S t)) := (cell_blk (h2.block B (Nat.lt_of_lt_of_le (blk_lt HX.out.rw) (bel_al WX _).size) (fun e => by have h9 := HX.out.ob B e.symm; omega)) 1).trans ((cell_blk ((bel_al WX _).block B (blk_lt HX.out.rw)) 1).trans d1))
                          | fail)
                        obtain ⟨a7, c7, hv7, _⟩ := own_slice h1
                        subst hv7
                        have HF7 : Hid (∃ f acc, DI w F P L w7 j (.slice a7 (nt + 1) c7) acc ∧ R = tkR L f (j + tn) acc ∧ L.length + 1 ≤ j + tn + f ∧ acc.length ≤ j + tn ∧ nt + 1 = acc.length) := by
                          have h3 := HF.out
                          have h4 := HPos2.out
                          have h5 := HTn.out
                          have h6 := HKJ.out
                          rw [List.length_drop] at h4
                          refine ⟨f', acc ++ [(3, t, nv, ql, qc)], (HX.out.di.below (bel_al WX _)).app ?_ h2, ?_, by omega, ?_, ?_⟩
                          · unfold OwnT
                            rw [tkc_app, tkc_one, List.length_append, ← h3.2.2]
                            exact h1
                          · rw [HRk.out]
                            unfold tkE
                            rw [if_neg HD0.out, HTok.out, HSp.out]
                            show tkR L f' (j + t.length) _ = _
                            rw [h5]
                          · rw [List.length_append, List.length_singleton]; omega
                          · rw [List.length_append, List.length_singleton, ← h3.2.2]
                        clear h1 h2
                        go_wp2_with fail
                        go_roundw
                        case rel => exact ⟨a7, nt + 1, c7, j, j + tn, rfl, rfl, by go_num, by omega, by omega, HF7.out⟩
                        case measure =>
                          have hkj9 := HKJ.out
                          simp [intOf]; omega
                      | false =>
                        have HRe : Hid (R = .er (ql, qc) 41) := by
                          show R = _
                          rw [HRk.out]
                          unfold tkE
                          rw [if_neg HD0.out, HTk.out, HSp.out]
                          rfl
                        clear HTk
                        go_wp2_with (first | (go_at_call 10; refine HWq2.out.mono ?_; rintro e9 wE ⟨rfl, hwE⟩; have hwE' := hwE.symm; subst hwE'; clear hwE) | fail)
                        refine (HOwn.out _).mono ?_
                        rintro e9 w4 ⟨rfl, hg4⟩
                        have HX4 := hidS (HX3.out.below hg4.below)
                        obtain ⟨⟨r0, r1, r2, r3, r4⟩, t0, t1, t2, t3, t4⟩ := HX4.out.rw.cells
                        clear hg4 HX3 HOwn
                        go_wp2_with (first | (go_at_call 12; refine (HDg.out _).mono ?_; rintro e9 wE ⟨rfl, hwE⟩; have hwE' := hwE.symm; subst hwE'; clear hwE) | fail)
                        refine (HNum.out _).mono ?_
                        rintro e9 w5 ⟨rfl, hb5⟩
                        have HX5 := hidS (HX4.out.below hb5)
                        obtain ⟨⟨y0, y1, y2, y3, y4⟩, z0, z1, z2, z3, z4⟩ := HX5.out.rw.cells
                        clear hb5 HX4 HNum
                        have HDX : Hid (DI w F P L _ j (.slice a nt c) acc) := HX5.out.di
                        obtain ⟨p2, p3⟩ := HCp.out _ HX5.out.di
                        clear HX5 HRk HF
                        have HFt : Hid (∀ U, Calls Tryz.prog 9 #[.agg #[.int .i64 (ql : Int), .int .i64 (qc : Int)], .int .i64 41] U fun e w' => e = .returned (.agg #[.int .i64 (ql : Int), .int .i64 (qc : Int), .int .i64 41]) ∧ Below U.heap.size U w') := fun U => rfault_any U ql qc 41
                        go_wp2_with fail
                        refine (HFt.out _).mono ?_
                        rintro e9 w9 ⟨rfl, hb9⟩
                        have HD9 := hidS (HDX.out.below hb9)
                        obtain ⟨f0, f1, f2, f3, f4, f5⟩ := HD9.out.fcells
                        have HE := hidS (HD9.out.fset (.int .i64 (ql : Int)) (.int .i64 (qc : Int)) (.int .i64 41))
                        clear hb9 HFt
                        go_wp2_with fail
                        obtain ⟨s0, s1, s2, hb, _⟩ := HE.out
                        exact bodyPost_ret (v := .tuple #[.slice none 0 0, .agg #[.int .i64 (ql : Int), .int .i64 (qc : Int), .int .i64 41]]) (by simp [results, Tryz.results4, go_sem, s0, s1, s2]) rfl (by rw [HRe.out]; exact ⟨rfl, hb⟩)
                  · have hqI : ¬ (q : Int) < (n : Int) := by omega
                    have HEnd : Hid (∀ h : q - j < (L.drop j).length, woC ((L.drop j)[q - j]).toNat = false) := fun h => by
                      exfalso
                      rw [List.length_drop, ← HN.out] at h
                      omega
                    clear hlt
                    have HFr : Hid (frB woC (L.drop j) = q - j) := frB_of woC (L.drop j) (q - j) (by rw [List.length_drop, ← HN.out]; omega) (fun i hi hlt => by
                      rw [List.length_drop] at hi
                      have h := HJ.out (j + i) (by omega) (by omega) (by omega)
                      simp only [List.getElem_drop]
                      exact h) HEnd.out
                    have htq : t = (L.drop j).take (q - j) := by rw [HTt.out, HFr.out]
                    have x1 : (S L).extract j q = S t := by rw [S_cut, List.drop_take, ← htq]
                    obtain ⟨tn, htn⟩ : ∃ tn, tn = t.length := ⟨_, rfl⟩
                    have hst : (S t).size = tn := by rw [S_size, htn]
                    have HTn := hidS htn
                    have hjqI : (j : Int) ≤ (q : Int) := by omega
                    have hqnI : (q : Int) ≤ (n : Int) := by omega
                    clear HFr htq htn HJ HEnd HTt
                    have HX2 := hidS (HS1.out.set1 (.string (S t)))
                    have HX3 := hidS (HX2.out.set0 (.int .i64 1))
                    obtain ⟨⟨k0, k1, k2, k3, k4⟩, g0, g1, g2, g3, g4⟩ := HS1.out.rw.cells
                    obtain ⟨⟨k5, k6, k7, k8, k9⟩, g5, g6, g7, g8, g9⟩ := HX2.out.rw.cells
                    obtain ⟨⟨_, e1, _⟩, _⟩ := HX3.out.rw.cells
                    clear HS1 HX2
                    obtain ⟨⟨nv, good⟩, hnv⟩ : ∃ q, q = numO t := ⟨_, rfl⟩
                    rw [← hnv] at HTk HNum
                    simp only at HTk HNum
                    clear hnv
                    cases good with
                    | true =>
                      have HTok : Hid (tokA (L.drop j) = .ok 3 t nv) := by show _ = _; rw [HTk.out]; rfl
                      clear HTk
                      go_wp2_with fail
                      refine (HOwn.out _).mono ?_
                      rintro e9 w4 ⟨rfl, hg4⟩
                      have HX4 := hidS (HX3.out.below hg4.below)
                      obtain ⟨⟨r0, r1, r2, r3, r4⟩, t0, t1, t2, t3, t4⟩ := HX4.out.rw.cells
                      clear hg4 HX3 HOwn
                      go_wp2_with (first | (go_at_call 12; refine (HDg.out _).mono ?_; rintro e9 wE ⟨rfl, hwE⟩; have hwE' := hwE.symm; subst hwE'; clear hwE) | fail)
                      refine (HNum.out _).mono ?_
                      rintro e9 w5 ⟨rfl, hb5⟩
                      have HX5 := hidS (HX4.out.below hb5)
                      obtain ⟨⟨y0, y1, y2, y3, y4⟩, z0, z1, z2, z3, z4⟩ := HX5.out.rw.cells
                      clear hb5 HX4 HNum
                      have HX6 := hidS (HX5.out.set0 (.int .i64 3))
                      have HX7 := hidS (HX6.out.set2 (.int .i64 nv))
                      obtain ⟨⟨n0, n1, n2, n3, n4⟩, m0, m1, m2, m3, m4⟩ := HX6.out.rw.cells
                      clear HX5 HX6
                      have HX := HX7
                      go_upto_region 38 with fail
                      generalize (w5.setCell ⟨B, 0, none⟩ (.int .i64 3)).setCell ⟨B, 2, none⟩ (.int .i64 nv) = WX at *
                      obtain ⟨⟨d0, d1, d2, d3, d4⟩, _⟩ := HX.out.rw.cells
                      have hOw := HX.out.di.own
                      unfold OwnT at hOw
                      rw [← HF.out.2.2] at hOw
                      have HOw := hidS hOw
                      clear hOw
                      have hnt9 : nt ≤ 65536 := by have h1 := HF.out; have h2 := HL.out; omega
                      have hsz5 := blk_lt HX.out.di.pb
                      obtain ⟨i0, ii, ie⟩ := Option.map_eq_some_iff.1 info_tok
                      simp only [Prod.mk.injEq] at ie
                      obtain ⟨iz0, iz1, iz2⟩ := ie
                      have HPos2 := hidS (tokA_pos HD0.out HTok.out)
                      have hjt : j + tn ≤ n := by have h4 := HPos2.out.2.1; have h5 := HTn.out; have h6 := HN.out; rw [List.length_drop] at h4; omega
                      have htp : 0 < tn := by have h4 := HPos2.out.1; have h5 := HTn.out; omega
                      have hjtI : (j : Int) + (tn : Int) ≤ 65536 := by omega
                      have hwj : IntKind.i64.wrap ((j : Int) + (tn : Int)) = (j : Int) + (tn : Int) := by rw [IntKind.wrap_i64]; omega
                      go_wp2_with (first
                        | (at_builtin; refine wpList_append_gen rfl _ _ 22 36 i0 (.agg #[.int .i64 0, .string ⟨#[]⟩, .int .i64 0, .int .i64 0, .int .i64 0]) 5 48 Tryz.underlying22 ii iz0 iz1 iz2 rfl (by decide) rfl (P + 1) (.slice a nt c) nt (tkc acc) rfl (World.ownsRow.alloc HOw.out _) ⟨WX.heap.size, 0, none⟩ 1 1 [.int .i64 3, .string (S t), .int .i64 nv, .int .i64 (ql : Int), .int .i64 (qc : Int)] rfl rfl (src_at WX _ _) (by intro u hu; simp at hu; rcases hu with rfl | rfl | rfl | rfl | rfl <;> rfl) (by unfold maxLen; omega) (by omega) (Nat.le_trans hsz5 (bel_al WX _).size) ?_; intro v7 w7 h1 h2; have e1 : w7.cell? ⟨B, 1, none⟩ = some (.string (S t)) := (cell_blk (h2.block B (Nat.lt_of_lt_of_le (blk_lt HX.out.rw) (bel_al WX _).size) (fun e => by have h9 := HX.out.ob B e.symm; omega)) 1).trans ((cell_blk ((bel_al WX _).block B (blk_lt HX.out.rw)) 1).trans d1))
                        | fail)
                      obtain ⟨a7, c7, hv7, _⟩ := own_slice h1
                      subst hv7
                      have HF7 : Hid (∃ f acc, DI w F P L w7 j (.slice a7 (nt + 1) c7) acc ∧ R = tkR L f (j + tn) acc ∧ L.length + 1 ≤ j + tn + f ∧ acc.length ≤ j + tn ∧ nt + 1 = acc.length) := by
                        have h3 := HF.out
                        have h4 := HPos2.out
                        have h5 := HTn.out
                        have h6 := HKJ.out
                        rw [List.length_drop] at h4
                        refine ⟨f', acc ++ [(3, t, nv, ql, qc)], (HX.out.di.below (bel_al WX _)).app ?_ h2, ?_, by omega, ?_, ?_⟩
                        · unfold OwnT
                          rw [tkc_app, tkc_one, List.length_append, ← h3.2.2]
                          exact h1
                        · rw [HRk.out]
                          unfold tkE
                          rw [if_neg HD0.out, HTok.out, HSp.out]
                          show tkR L f' (j + t.length) _ = _
                          rw [h5]
                        · rw [List.length_append, List.length_singleton]; omega
                        · rw [List.length_append, List.length_singleton, ← h3.2.2]
                      clear h1 h2
                      go_wp2_with fail
                      go_roundw
                      case rel => exact ⟨a7, nt + 1, c7, j, j + tn, rfl, rfl, by go_num, by omega, by omega, HF7.out⟩
                      case measure =>
                        have hkj9 := HKJ.out
                        simp [intOf]; omega
                    | false =>
                      have HRe : Hid (R = .er (ql, qc) 41) := by
                        show R = _
                        rw [HRk.out]
                        unfold tkE
                        rw [if_neg HD0.out, HTk.out, HSp.out]
                        rfl
                      clear HTk
                      go_wp2_with fail
                      refine (HOwn.out _).mono ?_
                      rintro e9 w4 ⟨rfl, hg4⟩
                      have HX4 := hidS (HX3.out.below hg4.below)
                      obtain ⟨⟨r0, r1, r2, r3, r4⟩, t0, t1, t2, t3, t4⟩ := HX4.out.rw.cells
                      clear hg4 HX3 HOwn
                      go_wp2_with (first | (go_at_call 12; refine (HDg.out _).mono ?_; rintro e9 wE ⟨rfl, hwE⟩; have hwE' := hwE.symm; subst hwE'; clear hwE) | fail)
                      refine (HNum.out _).mono ?_
                      rintro e9 w5 ⟨rfl, hb5⟩
                      have HX5 := hidS (HX4.out.below hb5)
                      obtain ⟨⟨y0, y1, y2, y3, y4⟩, z0, z1, z2, z3, z4⟩ := HX5.out.rw.cells
                      clear hb5 HX4 HNum
                      have HDX : Hid (DI w F P L _ j (.slice a nt c) acc) := HX5.out.di
                      obtain ⟨p2, p3⟩ := HCp.out _ HX5.out.di
                      clear HX5 HRk HF
                      have HFt : Hid (∀ U, Calls Tryz.prog 9 #[.agg #[.int .i64 (ql : Int), .int .i64 (qc : Int)], .int .i64 41] U fun e w' => e = .returned (.agg #[.int .i64 (ql : Int), .int .i64 (qc : Int), .int .i64 41]) ∧ Below U.heap.size U w') := fun U => rfault_any U ql qc 41
                      go_wp2_with fail
                      refine (HFt.out _).mono ?_
                      rintro e9 w9 ⟨rfl, hb9⟩
                      have HD9 := hidS (HDX.out.below hb9)
                      obtain ⟨f0, f1, f2, f3, f4, f5⟩ := HD9.out.fcells
                      have HE := hidS (HD9.out.fset (.int .i64 (ql : Int)) (.int .i64 (qc : Int)) (.int .i64 41))
                      clear hb9 HFt
                      go_wp2_with fail
                      obtain ⟨s0, s1, s2, hb, _⟩ := HE.out
                      exact bodyPost_ret (v := .tuple #[.slice none 0 0, .agg #[.int .i64 (ql : Int), .int .i64 (qc : Int), .int .i64 41]]) (by simp [results, Tryz.results4, go_sem, s0, s1, s2]) rfl (by rw [HRe.out]; exact ⟨rfl, hb⟩)
            · have hle : leC d = false := by
                cases h : leC d with
                | false => rfl
                | true =>
                  exfalso
                  refine hwo ⟨woC_of_le h, fun e => ?_⟩
                  rw [e] at h
                  revert h
                  decide
              have hdi : diC d = false := by
                cases h : diC d with
                | false => rfl
                | true =>
                  exfalso
                  refine hwo ⟨woC_of_di h, fun e => ?_⟩
                  rw [e] at h
                  revert h
                  decide
              rw [hle, hdi] at HTk
              have HTk2 : Hid (tokA (L.drop j) = if sgN (L.drop j) = 0 then .er 180 else .ok 4 ((L.drop j).take (sgN (L.drop j))) 0) := by show _ = _; rw [HTk.out]; simp
              have hwd : (woC d = false) ∨ (woC d = true ∧ ((d : Int) != 95) = false) := by
                cases h : woC d with
                | false => exact .inl rfl
                | true =>
                  refine .inr ⟨rfl, ?_⟩
                  have h95 : d = 95 := Decidable.byContradiction fun h2 => hwo ⟨h, h2⟩
                  simp; omega
              have h4 := sgN_le (L.drop j)
              obtain ⟨t, ht⟩ : ∃ t, t = (L.drop j).take (sgN (L.drop j)) := ⟨_, rfl⟩
              rw [← ht] at HSg2 HTk2
              have hts := S_toList t
              have htl : t.length = sgN (L.drop j) := by rw [ht, List.length_take]; omega
              rw [← htl] at HTk2
              have HS1 : Hid (DB w F P L W1 j (.slice a nt c) acc B (.int .i64 0) (.string ⟨#[]⟩) (.int .i64 0) (.int .i64 (ql : Int)) (.int .i64 (qc : Int))) := HX1.out
              clear HTk hle hdi ht h4 htl hwo HX1 HDg HPre HDJ
              by_cases h0 : t.length = 0
              · have hq : ((S t).toList == []) = true := by
                  rw [hts, List.eq_nil_of_length_eq_zero h0]; rfl
                have HRe : Hid (R = .er (ql, qc) 180) := by
                  show R = _
                  rw [HRk.out]
                  unfold tkE
                  rw [if_neg HD0.out, HTk2.out, if_pos h0, HSp.out]
                clear hts h0 HTk2
                generalize S t = u at *
                rcases hwd with hwd | ⟨hwd, h95⟩
                all_goals
                  rw [hwd] at HWo
                  clear hwd
                  go_wp2_with (first | (go_at_call 10; rw [← hW1]; refine (HWo.out _).mono ?_; rintro e9 wE ⟨rfl, hwE⟩; have hwE' := hwE.symm; subst hwE'; clear hwE) | fail)
                  rw [← hW1, ← hB]
                  refine (HSg2.out _).mono ?_
                  rintro e9 w3 ⟨rfl, hb3⟩
                  have HX3 := hidS (HS1.out.below hb3)
                  have HX4 := hidS (HX3.out.set1 (.string u))
                  have HX5 := hidS (HX4.out.set0 (.int .i64 4))
                  obtain ⟨⟨k0, k1, k2, k3, k4⟩, g0, g1, g2, g3, g4⟩ := HX3.out.rw.cells
                  obtain ⟨⟨k5, k6, k7, k8, k9⟩, g5, g6, g7, g8, g9⟩ := HX4.out.rw.cells
                  obtain ⟨⟨_, e1, _⟩, _⟩ := HX5.out.rw.cells
                  clear hb3 HS1 HX3 HX4 HSg2 HWo hW1 hB
                  have HDX : Hid (DI w F P L _ j (.slice a nt c) acc) := HX5.out.di
                  obtain ⟨p2, p3⟩ := HCp.out _ HX5.out.di
                  clear HX5 HRk HF
                  have HFt : Hid (∀ U, Calls Tryz.prog 9 #[.agg #[.int .i64 (ql : Int), .int .i64 (qc : Int)], .int .i64 180] U fun e w' => e = .returned (.agg #[.int .i64 (ql : Int), .int .i64 (qc : Int), .int .i64 180]) ∧ Below U.heap.size U w') := fun U => rfault_any U ql qc 180
                  go_wp2_with fail
                  refine (HFt.out _).mono ?_
                  rintro e9 w9 ⟨rfl, hb9⟩
                  have HD9 := hidS (HDX.out.below hb9)
                  obtain ⟨f0, f1, f2, f3, f4, f5⟩ := HD9.out.fcells
                  have HE := hidS (HD9.out.fset (.int .i64 (ql : Int)) (.int .i64 (qc : Int)) (.int .i64 180))
                  clear hb9 HFt
                  go_wp2_with fail
                  obtain ⟨s0, s1, s2, hb, _⟩ := HE.out
                  exact bodyPost_ret (v := .tuple #[.slice none 0 0, .agg #[.int .i64 (ql : Int), .int .i64 (qc : Int), .int .i64 180]]) (by simp [results, Tryz.results4, go_sem, s0, s1, s2]) rfl (by rw [HRe.out]; exact ⟨rfl, hb⟩)
              · have hq : ((S t).toList == []) = false := by
                  rw [hts]
                  cases t with
                  | nil => exact absurd rfl h0
                  | cons _ _ => rfl
                have HTok : Hid (tokA (L.drop j) = .ok 4 t 0) := by show _ = _; rw [HTk2.out, if_neg h0]
                obtain ⟨tn, htn⟩ : ∃ tn, tn = t.length := ⟨_, rfl⟩
                have hst : (S t).size = tn := by rw [S_size, htn]
                have HTn := hidS htn
                clear hts h0 HTk2 htn
                rcases hwd with hwd | ⟨hwd, h95⟩
                all_goals
                  rw [hwd] at HWo
                  clear hwd
                  go_wp2_with (first | (go_at_call 10; rw [← hW1]; refine (HWo.out _).mono ?_; rintro e9 wE ⟨rfl, hwE⟩; have hwE' := hwE.symm; subst hwE'; clear hwE) | fail)
                  rw [← hW1, ← hB]
                  refine (HSg2.out _).mono ?_
                  rintro e9 w3 ⟨rfl, hb3⟩
                  have HX3 := hidS (HS1.out.below hb3)
                  have HX4 := hidS (HX3.out.set1 (.string (S t)))
                  have HX5 := hidS (HX4.out.set0 (.int .i64 4))
                  obtain ⟨⟨k0, k1, k2, k3, k4⟩, g0, g1, g2, g3, g4⟩ := HX3.out.rw.cells
                  obtain ⟨⟨k5, k6, k7, k8, k9⟩, g5, g6, g7, g8, g9⟩ := HX4.out.rw.cells
                  obtain ⟨⟨_, e1, _⟩, _⟩ := HX5.out.rw.cells
                  clear hb3 HS1 HX3 HX4 HSg2 HWo hW1 hB
                  have HX := HX5
                  go_upto_region 38 with fail
                  generalize (w3.setCell ⟨B, 1, none⟩ (.string (S t))).setCell ⟨B, 0, none⟩ (.int .i64 4) = WX at *
                  obtain ⟨⟨d0, d1, d2, d3, d4⟩, _⟩ := HX.out.rw.cells
                  have hOw := HX.out.di.own
                  unfold OwnT at hOw
                  rw [← HF.out.2.2] at hOw
                  have HOw := hidS hOw
                  clear hOw
                  have hnt9 : nt ≤ 65536 := by have h1 := HF.out; have h2 := HL.out; omega
                  have hsz5 := blk_lt HX.out.di.pb
                  obtain ⟨i0, ii, ie⟩ := Option.map_eq_some_iff.1 info_tok
                  simp only [Prod.mk.injEq] at ie
                  obtain ⟨iz0, iz1, iz2⟩ := ie
                  have HPos2 := hidS (tokA_pos HD0.out HTok.out)
                  have hjt : j + tn ≤ n := by have h4 := HPos2.out.2.1; have h5 := HTn.out; have h6 := HN.out; rw [List.length_drop] at h4; omega
                  have htp : 0 < tn := by have h4 := HPos2.out.1; have h5 := HTn.out; omega
                  have hjtI : (j : Int) + (tn : Int) ≤ 65536 := by omega
                  have hwj : IntKind.i64.wrap ((j : Int) + (tn : Int)) = (j : Int) + (tn : Int) := by rw [IntKind.wrap_i64]; omega
                  go_wp2_with (first
                    | (at_builtin; refine wpList_append_gen rfl _ _ 22 36 i0 (.agg #[.int .i64 0, .string ⟨#[]⟩, .int .i64 0, .int .i64 0, .int .i64 0]) 5 48 Tryz.underlying22 ii iz0 iz1 iz2 rfl (by decide) rfl (P + 1) (.slice a nt c) nt (tkc acc) rfl (World.ownsRow.alloc HOw.out _) ⟨WX.heap.size, 0, none⟩ 1 1 [.int .i64 4, .string (S t), .int .i64 0, .int .i64 (ql : Int), .int .i64 (qc : Int)] rfl rfl (src_at WX _ _) (by intro u hu; simp at hu; rcases hu with rfl | rfl | rfl | rfl | rfl <;> rfl) (by unfold maxLen; omega) (by omega) (Nat.le_trans hsz5 (bel_al WX _).size) ?_; intro v7 w7 h1 h2; have e1 : w7.cell? ⟨B, 1, none⟩ = some (.string (S t)) := (cell_blk (h2.block B (Nat.lt_of_lt_of_le (blk_lt HX.out.rw) (bel_al WX _).size) (fun e => by have h9 := HX.out.ob B e.symm; omega)) 1).trans ((cell_blk ((bel_al WX _).block B (blk_lt HX.out.rw)) 1).trans d1))
                    | fail)
                  obtain ⟨a7, c7, hv7, _⟩ := own_slice h1
                  subst hv7
                  have HF7 : Hid (∃ f acc, DI w F P L w7 j (.slice a7 (nt + 1) c7) acc ∧ R = tkR L f (j + tn) acc ∧ L.length + 1 ≤ j + tn + f ∧ acc.length ≤ j + tn ∧ nt + 1 = acc.length) := by
                    have h3 := HF.out
                    have h4 := HPos2.out
                    have h5 := HTn.out
                    have h6 := HKJ.out
                    rw [List.length_drop] at h4
                    refine ⟨f', acc ++ [(4, t, 0, ql, qc)], (HX.out.di.below (bel_al WX _)).app ?_ h2, ?_, by omega, ?_, ?_⟩
                    · unfold OwnT
                      rw [tkc_app, tkc_one, List.length_append, ← h3.2.2]
                      exact h1
                    · rw [HRk.out]
                      unfold tkE
                      rw [if_neg HD0.out, HTok.out, HSp.out]
                      show tkR L f' (j + t.length) _ = _
                      rw [h5]
                    · rw [List.length_append, List.length_singleton]; omega
                    · rw [List.length_append, List.length_singleton, ← h3.2.2]
                  clear h1 h2
                  go_wp2_with fail
                  go_roundw
                  case rel => exact ⟨a7, nt + 1, c7, j, j + tn, rfl, rfl, by go_num, by omega, by omega, HF7.out⟩
                  case measure =>
                    have hkj9 := HKJ.out
                    simp [intOf]; omega
end Go.Proofs.YtlabofafmcbfmaaGreatDoor
