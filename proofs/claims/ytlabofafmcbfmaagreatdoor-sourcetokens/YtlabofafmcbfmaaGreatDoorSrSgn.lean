/-
  SOURCE: the document's sign. By gen_srsgn.py.
-/
import Derived.Test.YtlabofafmcbfmaaGreatDoorSrSgD
import Derived.Test.YtlabofafmcbfmaaGreatDoorSrMem
import Derived.Laws.Tables
import Derived.Deep.MidRow
import Derived.Deep.QuietTactic
import Derived.BigQuiet
namespace Go.Proofs.YtlabofafmcbfmaaGreatDoor
open Go.RowKit Go.Sort Go.Shelf

def sgC : Array Value := #[.string ⟨#[61, 61]⟩, .string ⟨#[33, 61]⟩, .string ⟨#[60, 61]⟩, .string ⟨#[62, 61]⟩, .string ⟨#[60, 60]⟩, .string ⟨#[62, 62]⟩, .string ⟨#[38, 38]⟩, .string ⟨#[124, 124]⟩, .string ⟨#[61]⟩, .string ⟨#[60]⟩, .string ⟨#[62]⟩, .string ⟨#[43]⟩, .string ⟨#[45]⟩, .string ⟨#[42]⟩, .string ⟨#[47]⟩, .string ⟨#[37]⟩, .string ⟨#[38]⟩, .string ⟨#[124]⟩, .string ⟨#[94]⟩, .string ⟨#[33]⟩, .string ⟨#[63]⟩, .string ⟨#[58]⟩, .string ⟨#[59]⟩, .string ⟨#[44]⟩, .string ⟨#[40]⟩, .string ⟨#[41]⟩, .string ⟨#[123]⟩, .string ⟨#[125]⟩]
theorem sgC_get (i : Nat) (h : i < 28) : sgC[i]? = some (.string (S sg28[i]!)) := by
  have e : sgC = (sg28.map fun p => Value.string (S p)).toArray := rfl
  have hl : i < sg28.length := h
  rw [e, getElem!_pos sg28 i hl]
  simp [List.getElem?_eq_getElem hl]
theorem wpList_builtS {P : Program} {ops : Array Oper} {rest : List Oper} {o : Oper} {a : Act} {w : World} {Q : Exit → Act → World → Prop} (hg : o.guard = none) (t : TypeId) (parts : Array (Nat × Operand)) (ho : o.op = .build t parts) (cells : Array Value)
    (hc : P.built t (parts.map fun (i, x) => (i, a.eval x)).toList = some cells) (h : wpList P ops Q rest (a.put o.dst (.agg cells)) w) : wpList P ops Q (o :: rest) a w := by
  refine wpList_build hg t parts ho (by rw [hc]; rfl) ?_
  rw [hc]; exact h
theorem zW_row (w : World) : ((w.alloc (.cells #[.string ⟨#[]⟩, .string ⟨#[]⟩, .string ⟨#[]⟩, .string ⟨#[]⟩, .string ⟨#[]⟩, .string ⟨#[]⟩, .string ⟨#[]⟩, .string ⟨#[]⟩, .string ⟨#[]⟩, .string ⟨#[]⟩, .string ⟨#[]⟩, .string ⟨#[]⟩, .string ⟨#[]⟩, .string ⟨#[]⟩, .string ⟨#[]⟩, .string ⟨#[]⟩, .string ⟨#[]⟩, .string ⟨#[]⟩, .string ⟨#[]⟩, .string ⟨#[]⟩, .string ⟨#[]⟩, .string ⟨#[]⟩, .string ⟨#[]⟩, .string ⟨#[]⟩, .string ⟨#[]⟩, .string ⟨#[]⟩, .string ⟨#[]⟩, .string ⟨#[]⟩] 62)).setRow w.heap.size sgC).heap[w.heap.size]? = some (.cells sgC 62 (0, 0)) := setRow_heap _ w.heap.size _ sgC 62 (0, 0) (heap_alloc_new (w := w) (.cells #[.string ⟨#[]⟩, .string ⟨#[]⟩, .string ⟨#[]⟩, .string ⟨#[]⟩, .string ⟨#[]⟩, .string ⟨#[]⟩, .string ⟨#[]⟩, .string ⟨#[]⟩, .string ⟨#[]⟩, .string ⟨#[]⟩, .string ⟨#[]⟩, .string ⟨#[]⟩, .string ⟨#[]⟩, .string ⟨#[]⟩, .string ⟨#[]⟩, .string ⟨#[]⟩, .string ⟨#[]⟩, .string ⟨#[]⟩, .string ⟨#[]⟩, .string ⟨#[]⟩, .string ⟨#[]⟩, .string ⟨#[]⟩, .string ⟨#[]⟩, .string ⟨#[]⟩, .string ⟨#[]⟩, .string ⟨#[]⟩, .string ⟨#[]⟩, .string ⟨#[]⟩] 62) _ rfl)
theorem zW_below (w : World) : Below w.heap.size w ((w.alloc (.cells #[.string ⟨#[]⟩, .string ⟨#[]⟩, .string ⟨#[]⟩, .string ⟨#[]⟩, .string ⟨#[]⟩, .string ⟨#[]⟩, .string ⟨#[]⟩, .string ⟨#[]⟩, .string ⟨#[]⟩, .string ⟨#[]⟩, .string ⟨#[]⟩, .string ⟨#[]⟩, .string ⟨#[]⟩, .string ⟨#[]⟩, .string ⟨#[]⟩, .string ⟨#[]⟩, .string ⟨#[]⟩, .string ⟨#[]⟩, .string ⟨#[]⟩, .string ⟨#[]⟩, .string ⟨#[]⟩, .string ⟨#[]⟩, .string ⟨#[]⟩, .string ⟨#[]⟩, .string ⟨#[]⟩, .string ⟨#[]⟩, .string ⟨#[]⟩, .string ⟨#[]⟩] 62)).setRow w.heap.size sgC) := below_setRow (bel_al w _) (Nat.le_refl _) _
set_option maxRecDepth 100000 in
set_option maxHeartbeats 400000 in
theorem rsigns_any (w : World) : Calls Tryz.prog 25 #[] w fun e w' => e = .returned (.agg sgC) ∧ Below w.heap.size w w' := by
  go_enter Tryz.func25, Tryz.ntmps25
  go_wp2_with (first | (refine wpList_builtS rfl 62 _ rfl sgC (by kernel_rfl) ?_) | (refine wpList_store_row rfl _ _ _ rfl w.heap.size sgC rfl rfl 62 _ (heap_alloc_new _ _ rfl) (by kernel_rfl) (by kernel_rfl) (by kernel_rfl) ?_))
  have hh := zW_row w
  have HB := hidS (zW_below w)
  generalize ((w.alloc (.cells #[.string ⟨#[]⟩, .string ⟨#[]⟩, .string ⟨#[]⟩, .string ⟨#[]⟩, .string ⟨#[]⟩, .string ⟨#[]⟩, .string ⟨#[]⟩, .string ⟨#[]⟩, .string ⟨#[]⟩, .string ⟨#[]⟩, .string ⟨#[]⟩, .string ⟨#[]⟩, .string ⟨#[]⟩, .string ⟨#[]⟩, .string ⟨#[]⟩, .string ⟨#[]⟩, .string ⟨#[]⟩, .string ⟨#[]⟩, .string ⟨#[]⟩, .string ⟨#[]⟩, .string ⟨#[]⟩, .string ⟨#[]⟩, .string ⟨#[]⟩, .string ⟨#[]⟩, .string ⟨#[]⟩, .string ⟨#[]⟩, .string ⟨#[]⟩, .string ⟨#[]⟩] 62)).setRow w.heap.size sgC) = W at *
  have hr := World.rangeAt_of_block hh 0 28
  have e : (sgC.extract 0 (0 + 28)).toList = sgC.toList := by rfl
  rw [e] at hr
  have hld := run_loadVar_mid (P := Tryz.prog) W w.heap.size 0 62 sgC.toList _ hr Tryz.underlying62 rfl (by kernel_rfl)
  refine bodyPost_ret (v := .agg sgC) ?_ rfl ⟨rfl, HB.out⟩
  simp [results, Tryz.results25, Act.put, asAddr, hld]
set_option maxRecDepth 100000 in
set_option maxHeartbeats 4000000 in
theorem rsign_any (w : World) (L : List UInt8) (k : Nat) (hk : k < L.length) (hL : L.length ≤ 65536) : Calls Tryz.prog 14 #[.string (S L), .int .i64 (k : Int)] w fun e w' => e = .returned (.string (S ((L.drop k).take (sgN (L.drop k))))) ∧ Below w.heap.size w w' := by
  have HSg := hidS (rsigns_any w)
  obtain ⟨n, hn⟩ : ∃ n, n = L.length := ⟨_, rfl⟩
  have hsz : (S L).size = n := by rw [S_size, hn]
  have HN := hidS hn
  have hn9 : n ≤ 65536 := by omega
  have hkn : k < n := by omega
  have hkI : (k : Int) < (n : Int) := by omega
  clear hn hk hL
  go_enter Tryz.func14, Tryz.ntmps14
  go_wp2_with fail
  refine HSg.out.mono ?_
  rintro e w1 ⟨rfl, hg1⟩
  have HB1 := hidS hg1
  clear hg1 HSg
  go_wp2_with (refine wpList_store_row rfl _ _ _ rfl w1.heap.size sgC rfl rfl 62 _ (heap_alloc_new _ _ rfl) (by kernel_rfl) (by kernel_rfl) (by kernel_rfl) ?_)
  obtain ⟨O, hO⟩ : ∃ O, O = w1.heap.size := ⟨_, rfl⟩
  obtain ⟨W1, hW1⟩ : ∃ W1, W1 = ((w1.alloc (.cells #[.string ⟨#[]⟩, .string ⟨#[]⟩, .string ⟨#[]⟩, .string ⟨#[]⟩, .string ⟨#[]⟩, .string ⟨#[]⟩, .string ⟨#[]⟩, .string ⟨#[]⟩, .string ⟨#[]⟩, .string ⟨#[]⟩, .string ⟨#[]⟩, .string ⟨#[]⟩, .string ⟨#[]⟩, .string ⟨#[]⟩, .string ⟨#[]⟩, .string ⟨#[]⟩, .string ⟨#[]⟩, .string ⟨#[]⟩, .string ⟨#[]⟩, .string ⟨#[]⟩, .string ⟨#[]⟩, .string ⟨#[]⟩, .string ⟨#[]⟩, .string ⟨#[]⟩, .string ⟨#[]⟩, .string ⟨#[]⟩, .string ⟨#[]⟩, .string ⟨#[]⟩] 62)).setRow w1.heap.size sgC) := ⟨_, rfl⟩
  have HG1 : Hid (Below w.heap.size w W1) := by show Below _ w W1; rw [hW1]; exact HB1.out.trans ((zW_below w1).mono HB1.out.size)
  have HC1 : Hid (∀ i, i < 28 → W1.cell? ⟨O, i, none⟩ = some (.string (S sg28[i]!))) := fun i hi => by
    have h1 := zW_row w1
    rw [← hW1, ← hO] at h1
    rw [World.cell?, h1]
    exact sgC_get i hi
  rw [← hW1, ← hO]
  clear hW1 hO HB1
  go_loopw [6] (fun x wr => ∃ (i : Nat), i ≤ 28 ∧ x = .int .i64 (i : Int) ∧ Hid (Grew W1 wr ∧ ∀ j, j < i → sg28[j]!.isPrefixOf (L.drop k) = false)) (fun x _ => 28 - (intOf x).toNat)
  case atStart => exact ⟨0, by omega, rfl, Grew.refl _, fun j hj => by omega⟩
  case round =>
    obtain ⟨i, hi, rfl, HI⟩ := hrel
    by_cases hlt : i < 28
    · have hiI : (i : Int) < 28 := by omega
      have c0 := HI.out.1.cell (HC1.out i hlt)
      have hlen := sg28_len hlt
      obtain ⟨m, hm⟩ : ∃ m, m = sg28[i]!.length := ⟨_, rfl⟩
      have hsm : (S sg28[i]!).size = m := by rw [S_size, hm]
      have HPx : Hid (sg28[i]!.isPrefixOf (L.drop k) = decide ((L.drop k).take m = sg28[i]!)) := by show _ = _; rw [hm]; exact pre_take
      have HHit : Hid (sg28[i]!.isPrefixOf (L.drop k) = true → (L.drop k).take (sgN (L.drop k)) = sg28[i]!) := fun h => sgD_hit hlt h HI.out.2
      rw [← hm] at hlen
      have hm2 : m ≤ 2 := by omega
      have hm0 : 0 < m := by omega
      have HMl := hidS hm
      have hts := S_toList sg28[i]!
      have x1 : (S L).extract k (k + m) = S ((L.drop k).take m) := by rw [S_cut, List.drop_take]; congr 1; congr 1; omega
      have hts2 := S_toList ((L.drop k).take m)
      have hw : IntKind.i64.wrap ((k : Int) + (m : Int)) = (k : Int) + (m : Int) := by rw [IntKind.wrap_i64]; omega
      have hp0 : (0 : Int) ≤ (k : Int) + (m : Int) := by omega
      have hp1 : (k : Int) ≤ (k : Int) + (m : Int) := by omega
      have hpt : ((k : Int) + (m : Int)).toNat = k + m := by omega
      have HGw : Hid (∀ q, Below w.heap.size w (wr.drewN q)) := fun q => HG1.out.trans ((HI.out.1.drewN q).below.mono HG1.out.size)
      have HC9 : Hid (∀ q, (wr.drewN q).cell? ⟨O, i, none⟩ = some (.string (S sg28[i]!))) := fun q => ((Grew.refl wr).drewN q).cell c0
      have HNx : Hid (∀ q, Grew W1 (wr.drewN q)) := fun q => HI.out.1.drewN q
      clear hm hlen
      by_cases hfit : k + m ≤ n
      · have hfI : (k : Int) + (m : Int) ≤ (n : Int) := by omega
        by_cases heq : (L.drop k).take m = sg28[i]!
        · have hq : ((S ((L.drop k).take m)).toList == (S sg28[i]!).toList) = true := by rw [hts, hts2, heq]; simp
          have HF : Hid ((L.drop k).take (sgN (L.drop k)) = sg28[i]!) := HHit.out (by rw [HPx.out]; exact decide_eq_true heq)
          clear heq hts hts2 HHit HPx HI HMl
          generalize S ((L.drop k).take m) = u at *
          generalize hz : S sg28[i]! = z at *
          have HZ := hidS hz
          clear hz
          go_wp2_with fail
          go_quiet (fail)
          have c9 := HC9.out nq
          have HG9 := hidS (HGw.out nq)
          generalize wr.drewN nq = W9 at *
          go_wp2_with fail
          go_ret
          exact ⟨by rw [HF.out, HZ.out]; rfl, HG9.out⟩
        · have hq : ((S ((L.drop k).take m)).toList == (S sg28[i]!).toList) = false := by rw [hts, hts2]; simpa using heq
          have HB : Hid (sg28[i]!.isPrefixOf (L.drop k) = false) := by show _ = _; rw [HPx.out]; exact decide_eq_false heq
          have HI3 : Hid (∀ j, j < i + 1 → sg28[j]!.isPrefixOf (L.drop k) = false) := fun j hj => by
            by_cases hj2 : j < i
            · exact HI.out.2 j hj2
            · obtain rfl : j = i := by omega
              exact HB.out
          clear heq hts hts2 HHit HPx HI HMl HB
          generalize S ((L.drop k).take m) = u at *
          generalize S sg28[i]! = z at *
          go_wp2_with fail
          go_quiet (fail)
          have HG9 := hidS (HNx.out nq)
          generalize wr.drewN nq = W9 at *
          go_wp2_with fail
          go_roundw
          case rel => exact ⟨i + 1, by omega, by go_num, HG9.out, HI3.out⟩
          case measure => simp [intOf]; omega
      · have hfI : ¬ (k : Int) + (m : Int) ≤ (n : Int) := by omega
        have hfB : decide ((k : Int) + (m : Int) ≤ (n : Int)) = false := decide_eq_false hfI
        have HB : Hid (sg28[i]!.isPrefixOf (L.drop k) = false) := by
          show _ = _
          rw [HPx.out]
          refine decide_eq_false (fun e => ?_)
          have h1 := congrArg List.length e
          rw [← HMl.out, List.length_take, List.length_drop, ← HN.out] at h1
          omega
        have HI3 : Hid (∀ j, j < i + 1 → sg28[j]!.isPrefixOf (L.drop k) = false) := fun j hj => by
          by_cases hj2 : j < i
          · exact HI.out.2 j hj2
          · obtain rfl : j = i := by omega
            exact HB.out
        clear hts hts2 HHit HPx HI HMl HB x1
        generalize S sg28[i]! = z at *
        go_wp2_with fail
        go_quiet (fail)
        have HG9 := hidS (HNx.out nq)
        generalize wr.drewN nq = W9 at *
        go_wp2_with fail
        go_roundw
        case rel => exact ⟨i + 1, by omega, by go_num, HG9.out, HI3.out⟩
        case measure => simp [intOf]; omega
    · have hiI : ¬ (i : Int) < 28 := by omega
      have hkl : k < L.length := by rw [← HN.out]; exact hkn
      have hkS : k < (S L).size := by rw [S_size]; exact hkl
      obtain ⟨c, hc⟩ : ∃ c, c = L[k].toNat := ⟨_, rfl⟩
      have hget : ((S L)[k]'hkS).toNat = c := by rw [hc]; exact congrArg UInt8.toNat (S_get L k hkS)
      have HM : Hid ((L.drop k).take (sgN (L.drop k)) = if c = 91 ∨ c = 93 then (L.drop k).take 1 else []) := by
        show _ = _
        have h1 : L.drop k = L[k] :: L.drop (k + 1) := List.drop_eq_getElem_cons hkl
        have h2 := sgD_miss (c := L[k]) (r := L.drop (k + 1)) (fun j hj => by rw [← h1]; exact HI.out.2 j (by omega))
        rw [← h1] at h2
        rw [h2, hc]
        by_cases h3 : L[k].toNat = 91 ∨ L[k].toNat = 93
        · rw [if_pos h3, if_pos h3, h1]
          rfl
        · rw [if_neg h3, if_neg h3]
      have HGw := hidS (HG1.out.trans (HI.out.1.below.mono HG1.out.size))
      have x1 : (S L).extract k (k + 1) = S ((L.drop k).take 1) := by rw [S_cut, List.drop_take]; congr 1; congr 1; omega
      have hw1 : IntKind.i64.wrap ((k : Int) + 1) = (k : Int) + 1 := by rw [IntKind.wrap_i64]; omega
      have hkn1 : (k : Int) + 1 ≤ (n : Int) := by omega
      have hk01 : (0 : Int) ≤ (k : Int) + 1 := by omega
      have hk02 : (k : Int) ≤ (k : Int) + 1 := by omega
      have hkt : ((k : Int) + 1).toNat = k + 1 := by omega
      clear hc HI
      by_cases h91 : c = 91
      · have hb1 : ((c : Int) == 91) = true := by simp; omega
        have HF : Hid ((L.drop k).take (sgN (L.drop k)) = (L.drop k).take 1) := by show _ = _; rw [HM.out, if_pos (.inl h91)]
        clear h91 HM
        go_wp2_with fail
        go_ret
        exact ⟨by rw [HF.out]; rfl, HGw.out⟩
      · have hb1 : ((c : Int) == 91) = false := by simp; omega
        by_cases h93 : c = 93
        · have hb2 : ((c : Int) == 93) = true := by simp; omega
          have HF : Hid ((L.drop k).take (sgN (L.drop k)) = (L.drop k).take 1) := by show _ = _; rw [HM.out, if_pos (.inr h93)]
          clear h91 h93 HM
          go_wp2_with fail
          go_ret
          exact ⟨by rw [HF.out]; rfl, HGw.out⟩
        · have hb2 : ((c : Int) == 93) = false := by simp; omega
          have HF : Hid ((L.drop k).take (sgN (L.drop k)) = []) := by
            show _ = _
            rw [HM.out, if_neg]
            rintro (h | h)
            · exact h91 h
            · exact h93 h
          clear h91 h93 HM
          go_wp2_with fail
          go_ret
          exact ⟨by rw [HF.out]; rfl, HGw.out⟩
end Go.Proofs.YtlabofafmcbfmaaGreatDoor
