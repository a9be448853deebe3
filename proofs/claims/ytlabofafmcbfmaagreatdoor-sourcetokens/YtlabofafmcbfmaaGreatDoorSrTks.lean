/-
  SOURCE: the code's Tokens.
-/
import Derived.Test.YtlabofafmcbfmaaGreatDoorSrTkH
namespace Go.Proofs.YtlabofafmcbfmaaGreatDoor
open Go.RowKit Go.Sort Go.Shelf

set_option maxRecDepth 100000 in
set_option maxHeartbeats 4000000 in
theorem tokens_any (w : World) (L : List UInt8) (hL : L.length ≤ 65536) (hT : TabsOK w) (hP : PairVar w) (hN : NumVars w) (hM : MLen w) : Calls Tryz.prog 5 #[.string (S L)] w fun e w' => TksPost w (tksA L) e w' := by
  obtain ⟨R, hR⟩ : ∃ R, R = tksA L := ⟨_, rfl⟩
  have HR := hidS hR
  rw [← hR]
  have hsz : (S L).size ≤ 65536 := by rw [S_size]; exact hL
  have HV : Hid (∀ U, Below w.heap.size w U → TabsOK U ∧ PairVar U ∧ NumVars U ∧ MLen U) := fun U hU => ⟨hT.kept hU, hP.kept hU, hN.kept hU, hM.kept hU⟩
  have hG : 4 < w.heap.size := by obtain ⟨m, hm⟩ := hM; exact cell_lt hm
  have HCl := hidS (cloneS_any w (S L) (by omega))
  have HSt : Hid (∀ U, Calls Tryz.prog 16 #[] U fun e w' => e = .returned (.agg #[.int .i64 1, .int .i64 1]) ∧ Below U.heap.size U w') := fun U => start_any U
  have HL := hidS hL
  clear hR hL hT hP hN hM
  go_enter Tryz.func5, Tryz.ntmps5
  go_wp2_with fail
  refine HCl.out.mono ?_
  rintro e w1 ⟨rfl, hb1⟩
  have HB1 := hidS hb1
  clear hb1 HCl
  go_wp2_with fail
  refine (HSt.out _).mono ?_
  rintro e w2 ⟨rfl, hb2⟩
  have HB2 : Hid (Below w.heap.size w w2) := HB1.out.trans (hb2.mono HB1.out.size)
  clear hb2 HB1 HSt
  go_wp2_with fail
  obtain ⟨sb, hsb⟩ : ∃ sb, sb = w2.heap.size := ⟨_, rfl⟩
  obtain ⟨W0, hW0⟩ : ∃ W0, W0 = w2.alloc (.cells #[.string (S L), .int .i64 1, .int .i64 1] 49) := ⟨_, rfl⟩
  have HT0 : Hid (TI w sb L W0 0 (.slice none 0 0) []) := by
    refine ⟨?_, OwnT.nil _ _, ?_, ?_⟩
    · rw [hW0, hsb]
      exact heap_alloc_new _ _ rfl
    · rw [hW0]
      exact HB2.out.trans ((bel_al w2 _).mono HB2.out.size)
    · rw [hsb]; exact HB2.out.size
  have hGs : 4 ≠ sb := by have := HB2.out.size; omega
  have HSk : Hid (∀ U k av acc, TI w sb L U k av acc → k ≤ L.length → Calls Tryz.prog 17 #[.pointer (some ⟨sb, 0, none⟩)] U fun e w' => e = .returned (.tuple #[]) ∧ TI w sb L w' (k + KL (L.drop k)) av acc) := fun U k av acc h hk => by
    have h1 := spO_le L k
    have h2 := HL.out
    refine (skip_any U sb (L.drop k) (spO L k) h.sbx (by rw [List.length_drop]; omega) ⟨by rw [List.length_drop]; omega, by rw [List.length_drop]; omega⟩ (HV.out _ h.bel).2.2.2 hGs).mono fun e w' ⟨a1, a2, a3⟩ => ⟨a1, ?_⟩
    rw [skL_at] at a2
    exact h.t1 a3 a2
  have HPs : Hid (∀ U k av acc n, TI w sb L U k av acc → k + n ≤ L.length → Calls Tryz.prog 20 #[.pointer (some ⟨sb, 0, none⟩), .int .i64 (n : Int)] U fun e w' => e = .returned (.tuple #[]) ∧ T1 sb U w' ∧ TI w sb L w' (k + n) av acc) := fun U k av acc n h hk => by
    have h1 := spO_le L k
    have h2 := HL.out
    refine (pass_any U sb (L.drop k) (spO L k) n h.sbx (by rw [List.length_drop]; omega) (by rw [List.length_drop]; omega) ⟨by omega, by omega⟩).mono fun e w' ⟨a1, a2, a3⟩ => ⟨a1, a3, ?_⟩
    rw [List.drop_drop, spO_add] at a2
    exact h.t1 a3 a2
  have HTk : Hid (∀ U k, Below w.heap.size w U → L.drop k ≠ [] → Calls Tryz.prog 18 #[.string (S (L.drop k))] U fun e w' => e = .returned (tkP (tokA (L.drop k))) ∧ Below U.heap.size U w') := fun U k hU hk => by
    obtain ⟨v1, v2, v3, _⟩ := HV.out _ hU
    have h2 := HL.out
    exact tokenAhead_any U (L.drop k) hk (by rw [List.length_drop]; omega) v1 v2 v3
  rw [← hW0, ← hsb]
  clear hW0 hsb HB2 hG
  refine (HSk.out W0 0 _ _ HT0.out (by omega)).mono ?_
  rintro e w3 ⟨rfl, hti⟩
  have HT3 : Hid (TI w sb L w3 (KL L) (.slice none 0 0) [] ∧ R = tkE L L.length (KL L) []) := by
    refine ⟨?_, by rw [HR.out]; unfold tksA; rw [tkR_tkE, Nat.zero_add, List.drop_zero]⟩
    have h := hti
    rw [Nat.zero_add, List.drop_zero] at h
    exact h
  clear hti HT0 HR
  go_wp2_with fail
  go_loopw [5] (fun x wr => ∃ (a : Option Addr) (n c : Nat), x = .slice a n c ∧ Hid (∃ e f acc, TI w sb L wr e (.slice a n c) acc ∧ R = tkE L f e acc ∧ L.length ≤ e + f ∧ e ≤ L.length ∧ acc.length ≤ e ∧ n = acc.length)) (fun _ wr => (match wr.cell? ⟨sb, 0, none⟩ with | some (.string s) => s.size | _ => 0))
  case atStart => exact ⟨none, 0, 0, rfl, KL L, L.length, [], HT3.out.1, HT3.out.2, by omega, KL_le L, by simp, rfl⟩
  case round =>
    clear HT3
    obtain ⟨a, n, c, rfl, HI⟩ := hrel
    obtain ⟨k, f, acc, hti, hR, hf, hk, hacc, hn⟩ := HI.out
    obtain ⟨c0, c1, c2, _, _, _⟩ := hti.sbx.cells
    have hts := S_toList (L.drop k)
    have HTI := hidS hti
    have HRk := hidS hR
    have HN := hidS hn
    have HF := hidS (And.intro hf (And.intro hk hacc))
    clear hti hR hn HI hf hk hacc
    by_cases h0 : L.drop k = []
    · have hq : ((S (L.drop k)).toList == []) = true := by rw [hts, h0]; rfl
      have HP : Hid (TksPost w R (.returned (.tuple #[.slice a n c, .nilIface])) wr) := by
        have e : R = .ok acc := by rw [HRk.out]; unfold tkE; rw [if_pos h0]
        rw [e, HN.out]
        refine ⟨a, c, rfl, ?_, HTI.out.bel⟩
        have h := HTI.out.own
        rw [HN.out] at h
        exact ownsRow_mono h (by have := HTI.out.sbl; omega)
      clear h0 hts HRk HN
      generalize S (L.drop k) = u at *
      go_wp2_with fail
      go_ret2
      exact HP.out
    · have hq : ((S (L.drop k)).toList == []) = false := by
        rw [hts]
        simpa using h0
      have HTk2 := hidS (HTk.out wr k HTI.out.bel h0)
      have HRk2 : Hid (R = match tokA (L.drop k) with
        | .er x => .er (spO L k) x
        | .ok kd t n => tkR L f (k + t.length) (acc ++ [(kd, t, n, spO L k)])) := by show R = _; rw [HRk.out]; unfold tkE; rw [if_neg h0]; rfl
      have HPos : Hid (∀ kd t n, tokA (L.drop k) = .ok kd t n → 0 < t.length ∧ k + t.length ≤ L.length) := fun kd t n h => by
        have h1 := tokA_pos h0 h
        have h2 := h1.2.1
        rw [List.length_drop] at h2
        have h3 := HF.out.2.1
        exact ⟨h1.1, by omega⟩
      have HD0 : Hid (L.drop k ≠ []) := h0
      have HEr : Hid (∀ x, tokA (L.drop k) = .er x → x ≠ 0) := fun x h => tokA_er h
      clear h0 hts HRk
      cases htk : tokA (L.drop k) with
      | er x =>
        have hx0 := HEr.out x htk
        rw [htk] at HTk2 HRk2
        rw [show tkP (.er x) = .tuple #[.agg #[.int .i64 0, .string ⟨#[]⟩, .int .i64 0, .int .i64 0, .int .i64 0], .int .i64 (x : Int)] from rfl] at HTk2
        simp only at HRk2
        have hxI : ((x : Int) != 0) = true := by simp; omega
        obtain ⟨q, hq2⟩ : ∃ q, q = spO L k := ⟨_, rfl⟩
        rw [← hq2] at c1 c2 HRk2
        obtain ⟨ql, qc⟩ := q
        simp only at c1 c2
        have hc := c0
        clear HEr HPos hx0 htk hc
        go_wp2_with fail
        refine HTk2.out.mono ?_
        rintro e w4 ⟨rfl, hb4⟩
        have HT4 : Hid (∀ o, TI w sb L (w4.alloc o) k (.slice a n c) acc) := fun o => (HTI.out.below hb4).below (bel_al w4 o)
        have HCs : Hid (∀ o, (w4.alloc o).cell? ⟨sb, 1, none⟩ = some (.int .i64 (ql : Int)) ∧ (w4.alloc o).cell? ⟨sb, 2, none⟩ = some (.int .i64 (qc : Int))) := fun o => by
          obtain ⟨_, a1, a2, _⟩ := (HT4.out o).sbx.cells
          rw [← hq2] at a1 a2
          exact ⟨a1, a2⟩
        have HWr : Hid (∀ U, Calls Tryz.prog 19 #[.agg #[.int .i64 (ql : Int), .int .i64 (qc : Int)], .int .i64 (x : Int)] U fun e w' => ∃ v, e = .returned v ∧ ErrAt w' v ql qc (x : Int) ∧ Below U.heap.size U w') := fun U => wrongAtS_any U ql qc x
        obtain ⟨e1, e2⟩ := HCs.out (.cells #[.int .i64 0, .string ⟨#[]⟩, .int .i64 0, .int .i64 0, .int .i64 0] 36)
        clear hb4 HTk2 hq2
        go_wp2_with fail
        refine (HWr.out _).mono ?_
        rintro e w5 ⟨v, rfl, he, hb5⟩
        have HP : Hid (TksPost w R (.returned (.tuple #[.slice none 0 0, v])) w5) := by
          rw [HRk2.out]
          exact ⟨v, rfl, he, (HT4.out _).bel.trans (hb5.mono (HT4.out _).bel.size)⟩
        clear he hb5 HRk2
        go_wp2_with fail
        go_ret2
        exact HP.out
      | ok kd t nv =>
        have hps := HPos.out kd t nv htk
        rw [htk] at HTk2 HRk2
        rw [show tkP (.ok kd t nv) = .tuple #[.agg #[.int .i64 (kd : Int), .string (S t), .int .i64 nv, .int .i64 0, .int .i64 0], .int .i64 0] from rfl] at HTk2
        simp only at HRk2
        obtain ⟨q, hq2⟩ : ∃ q, q = spO L k := ⟨_, rfl⟩
        rw [← hq2] at c1 c2 HRk2
        obtain ⟨ql, qc⟩ := q
        simp only at c1 c2
        obtain ⟨tn, htn⟩ : ∃ tn, tn = t.length := ⟨_, rfl⟩
        have hst : (S t).size = tn := by rw [S_size, htn]
        rw [← htn] at hps HRk2
        have HTn := hidS htn
        have HPs2 := hidS hps
        clear HEr HPos htk hps htn
        go_wp2_with fail
        refine HTk2.out.mono ?_
        rintro e w4 ⟨rfl, hb4⟩
        have HT4 : Hid (∀ o, TI w sb L (w4.alloc o) k (.slice a n c) acc) := fun o => (HTI.out.below hb4).below (bel_al w4 o)
        have HCs : Hid (∀ o, (w4.alloc o).cell? ⟨sb, 1, none⟩ = some (.int .i64 (ql : Int)) ∧ (w4.alloc o).cell? ⟨sb, 2, none⟩ = some (.int .i64 (qc : Int))) := fun o => by
          obtain ⟨_, a1, a2, _⟩ := (HT4.out o).sbx.cells
          rw [← hq2] at a1 a2
          exact ⟨a1, a2⟩
        have HPs3 : Hid (∀ o, Calls Tryz.prog 20 #[.pointer (some ⟨sb, 0, none⟩), .int .i64 (tn : Int)] (w4.alloc o) fun e w' => e = .returned (.tuple #[]) ∧ T1 sb (w4.alloc o) w' ∧ TI w sb L w' (k + tn) (.slice a n c) acc) := fun o => HPs.out _ _ _ _ tn (HT4.out o) HPs2.out.2
        have hbs : sb < w4.heap.size := by
          have h1 := HTI.out.sbx
          have h2 := blk_lt h1
          have := hb4.size
          omega
        obtain ⟨e1, e2⟩ := HCs.out (.cells #[.int .i64 (kd : Int), .string (S t), .int .i64 nv, .int .i64 0, .int .i64 0] 36)
        clear hb4 HTk2 hq2
        go_wp2_with fail
        obtain ⟨B, hB⟩ : ∃ B, B = w4.heap.size := ⟨_, rfl⟩
        have HR5 : Hid (Row5 (w4.alloc (.cells #[.int .i64 (kd : Int), .string (S t), .int .i64 nv, .int .i64 (ql : Int), .int .i64 (qc : Int)] 36)) B (.int .i64 (kd : Int)) (.string (S t)) (.int .i64 nv) (.int .i64 (ql : Int)) (.int .i64 (qc : Int))) := by show Row5 _ _ _ _ _ _ _; rw [hB]; exact Row5.al _ _ _ _ _ _
        rw [← hB]
        rw [← hB] at hbs
        refine (HPs3.out _).mono ?_
        rintro e w5 ⟨rfl, ht5, hti5⟩
        have hr5 := ht5.row5 HR5.out (by omega)
        obtain ⟨⟨d0, d1, d2, d3, d4⟩, _⟩ := hr5.cells
        have HT5 := hidS hti5
        have HOw : Hid (w5.ownsRow (sb + 1) 36 5 (.slice a n c) n (tkc acc)) := by
          have h := hti5.own
          show World.ownsRow _ _ _ _ _ _ _
          rw [HN.out]
          rw [HN.out] at h
          exact h
        have hn9 : n ≤ 65536 := by have h1 := HF.out; have h2 := HL.out; have h3 := HN.out; omega
        have hsz5 : sb + 1 ≤ w5.heap.size := blk_lt hti5.sbx
        obtain ⟨i0, ii, ie⟩ := Option.map_eq_some_iff.1 info_tok
        simp only [Prod.mk.injEq] at ie
        obtain ⟨iz0, iz1, iz2⟩ := ie
        clear hr5 hti5 ht5 HR5 HCs HT4 HPs3 e1 e2 hB hbs
        go_wp2_with (first
          | (at_builtin; refine wpList_append_gen rfl _ _ 22 36 i0 (.agg #[.int .i64 0, .string ⟨#[]⟩, .int .i64 0, .int .i64 0, .int .i64 0]) 5 48 Tryz.underlying22 ii iz0 iz1 iz2 rfl (by decide) rfl (sb + 1) (.slice a n c) n (tkc acc) rfl (World.ownsRow.alloc HOw.out _) ⟨w5.heap.size, 0, none⟩ 1 1 [.int .i64 (kd : Int), .string (S t), .int .i64 nv, .int .i64 (ql : Int), .int .i64 (qc : Int)] rfl rfl (src_at w5 _ _) (by intro u hu; simp at hu; rcases hu with rfl | rfl | rfl | rfl | rfl <;> rfl) (by unfold maxLen; omega) (by omega) (Nat.le_trans hsz5 (bel_al _ _).size) ?_; intro v7 w7 h1 h2)
          | fail)
        obtain ⟨a7, c7, hv7, _⟩ := own_slice h1
        subst hv7
        have HT7 : Hid (TI w sb L w7 (k + tn) (.slice a7 (n + 1) c7) (acc ++ [(kd, t, nv, ql, qc)])) := by
          refine (HT5.out.below (bel_al w5 _)).app ?_ h2
          unfold OwnT
          rw [tkc_app, tkc_one, List.length_append, ← HN.out]
          exact h1
        have HSk2 := hidS (HSk.out w7 (k + tn) _ _ HT7.out HPs2.out.2)
        clear h1 h2 HT7 HOw
        refine HSk2.out.mono ?_
        rintro e w8 ⟨rfl, hti8⟩
        obtain ⟨c8, _⟩ := hti8.sbx.cells
        have HC0 := hidS c0
        have HC8 := hidS c8
        have HF8 : Hid (∃ e f acc, TI w sb L w8 e (.slice a7 (n + 1) c7) acc ∧ R = tkE L f e acc ∧ L.length ≤ e + f ∧ e ≤ L.length ∧ acc.length ≤ e ∧ n + 1 = acc.length) := by
          have h1 := HF.out
          have h2 := HPs2.out
          have h3 := KL_le (L.drop (k + tn))
          rw [List.length_drop] at h3
          obtain ⟨f', rfl⟩ : ∃ f', f = f' + 1 := ⟨f - 1, by omega⟩
          refine ⟨k + tn + KL (L.drop (k + tn)), f', _, hti8, ?_, by omega, by omega, ?_, ?_⟩
          · rw [HRk2.out, tkR_tkE]
          · rw [List.length_append, List.length_singleton]; omega
          · rw [List.length_append, List.length_singleton, ← HN.out]
        have HMs : Hid ((S (L.drop (k + tn + KL (L.drop (k + tn))))).size < (S (L.drop k)).size) := by
          have h2 := HPs2.out
          show _ < _
          rw [S_size, S_size, List.length_drop, List.length_drop]
          omega
        clear hti8 c8 c0 HRk2 HTI HT5
        go_wp2_with fail
        go_roundw
        case rel => exact ⟨a7, n + 1, c7, rfl, HF8⟩
        case measure =>
          rw [HC0.out, HC8.out]
          exact HMs.out
end Go.Proofs.YtlabofafmcbfmaaGreatDoor
