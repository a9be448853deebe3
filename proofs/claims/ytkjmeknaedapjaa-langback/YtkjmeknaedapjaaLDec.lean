/-
  THE WALK OF Decode.
-/
import Derived.Test.YtkjmeknaedapjaaLDecH
import Derived.Deep.RegionLaw
import Derived.Deep.DeepCutAuto
namespace Go.Proofs.Ytkjmeknaedapjaa
open Go.RowKit Go.Sort

theorem nmS_inj {X Y : List Nat} (hX : ∀ z ∈ X, z < 256) (hY : ∀ z ∈ Y, z < 256) (h : nmS X = nmS Y) : X = Y := by
  rw [← nmB_nmS hX, h, nmB_nmS hY]
theorem nmS_toList (X : List Nat) : (nmS X).toList = X.map UInt8.ofNat := by
  rw [ByteArray.toList_eq]; simp [nmS]
set_option maxRecDepth 100000 in
set_option maxHeartbeats 2000000 in
theorem decode_any (w : World) (ao : Option Addr) (n cap : Nat) (b : List Nat) (h : BytesAt w ao b) (hn : n = b.length) (hm : n ≤ 140737488355328) :
    Calls Try.prog 7 #[.slice ao n cap] w fun e w' => RPost w b e w' := by
  have H : Hid (BytesAt w ao b) := h
  have HN : Hid (n = b.length) := hn
  have HZ : Hid (∀ z ∈ b, z < 256) := h.1
  clear h hn
  go_enter Try.func7, Try.ntmps7
  go_wp2_with fail
  refine (read_any w ao cap n b HN.out H.out hm).mono ?_
  rintro e w1 ⟨rfl, hr1, hb1, hs1⟩
  rw [HN.out] at hr1
  have HD1 : Hid (DT w w1 b 0 0 (.slice none 0 0) []) := ⟨hr1, hb1, OwnP.nil _ _, (fun x hx => by cases hx), (fun x hx => by cases hx), List.Pairwise.nil⟩
  clear hr1 hb1 hs1
  go_wp2_with fail
  refine (rRaw_any w1 _ _ _ b 0 0 4 HD1.out.rd).mono ?_
  rintro e w2 ⟨v2, rfl, ho2, hr2⟩
  have HD2 : Hid (DT w w2 b (rdRaw b 0 0 4).2.1 (rdRaw b 0 0 4).2.2 (.slice none 0 0) []) := HD1.out.step hr2
  have hcv := string_own ho2
  obtain ⟨a2, c2, rfl, hb2, _, _⟩ := ho2.slice
  have HX : Hid (∀ z ∈ (rdRaw b 0 0 4).1, z < 256) := ho2.1
  have HE : Hid (hdE b = if (rdRaw b 0 0 4).1 = [80, 82, 76, 49] then (rdRaw b 0 0 4).2.2 else failE (rdRaw b 0 0 4).2.2 11) := rfl
  clear ho2 hr2 hb2 HD1
  generalize hX : (rdRaw b 0 0 4).1 = X at *
  have HXX : Hid ((rdRaw b 0 0 4).1 = X) := hX
  clear hX
  generalize (rdRaw b 0 0 4).2.2 = e1 at *
  go_upto_if 16 with fail
  have HQ0 : ((nmS X).toList == ([80, 82, 76, 49] : List UInt8)) = true ↔ X = [80, 82, 76, 49] := by
    rw [beq_iff_eq, nmS_toList]
    constructor
    · intro e
      refine nmS_inj HX.out (by decide) ?_
      unfold nmS; rw [e]; rfl
    · intro e; rw [e]; rfl
  generalize ((nmS X).toList == ([80, 82, 76, 49] : List UInt8)) = q at *
  have HQ : Hid (q = true ↔ X = [80, 82, 76, 49]) := HQ0
  clear HQ0
  go_cut [] (fun wx => Hid (DT w wx b (rdRaw b 0 0 4).2.1 (hdE b) (.slice none 0 0) []))
  case first =>
    cases q with
    | true =>
      have HS : Hid (DT w w2 b (rdRaw b 0 0 4).2.1 (hdE b) (.slice none 0 0) []) := by rw [HE.out, if_pos (HQ.out.1 rfl)]; exact HD2.out
      go_wp2_with fail
      go_meet
      case rel => exact HS
    | false =>
      go_wp2_with fail
      refine (rFail_any w2 _ _ _ b _ e1 11 HD2.out.rd).mono ?_
      rintro e w3 ⟨rfl, hr3⟩
      have HS : Hid (DT w w3 b (rdRaw b 0 0 4).2.1 (hdE b) (.slice none 0 0) []) := by rw [HE.out, if_neg (fun h => by have := HQ.out.2 h; cases this)]; exact HD2.out.step hr3
      clear hr3
      go_wp2_with fail
      go_meet
      case rel => exact HS
  have HD3 := hcut
  clear hcut HD2 HX HE HXX HQ hcv
  generalize wc = w3 at *
  obtain ⟨⟨m, p3, e3⟩, hU⟩ : ∃ x, x = decU b := ⟨_, rfl⟩
  have HU : Hid (rdUpto b (rdRaw b 0 0 4).2.1 (hdE b) 64 = (m, p3, e3)) := by rw [hU]; rfl
  have HA : Hid (decA b = decL b p3 e3 m) := by show decA b = _; unfold decA; rw [← hU]
  have hm64 : m ≤ 64 := by have := rdUpto_most b (rdRaw b 0 0 4).2.1 (hdE b) 64; rw [HU.out] at this; exact this
  clear hU
  go_wp2_with fail
  refine (rUpto_any w3 _ _ _ b _ _ 64 HD3.out.rd).mono ?_
  rintro e w4 ⟨rfl, hr4⟩
  rw [HU.out] at hr4 ⊢
  have HD4 : Hid (DT w w4 b p3 e3 (.slice none 0 0) []) := HD3.out.step hr4
  clear hr4 HD3 HU
  go_wp2_with fail
  go_loopw [6, 21] (fun v x wr => ∃ k : Nat, k ≤ m ∧ x = .int .u64 (k : Int) ∧ ∃ av cv Ps, v = .slice av k cv ∧ Hid (Ps.map core = (decL b p3 e3 k).1) ∧ Hid (DT w wr b (decL b p3 e3 k).2.1 (decL b p3 e3 k).2.2 (.slice av k cv) Ps)) (fun _ x _ => m - (intOf x).toNat)
  case atStart => exact ⟨0, Nat.zero_le _, rfl, none, 0, [], rfl, rfl, HD4⟩
  case round =>
    clear HD4
    obtain ⟨k, hk, rfl, av, cv, Ps, rfl, HC, HD⟩ := hrel
    have HLn : Hid (Ps.length = k) := HD.out.lib.2.1.symm
    by_cases hlt : k < m
    · have HL1 : Hid (decL b p3 e3 (k + 1) = ((decL b p3 e3 k).1 ++ [(nmS (rdBytes b (decL b p3 e3 k).2.1 (decL b p3 e3 k).2.2 31).1, (getP b (rdBytes b (decL b p3 e3 k).2.1 (decL b p3 e3 k).2.2 31).2.1 (rdBytes b (decL b p3 e3 k).2.1 (decL b p3 e3 k).2.2 31).2.2).1, (getP b (rdBytes b (decL b p3 e3 k).2.1 (decL b p3 e3 k).2.2 31).2.1 (rdBytes b (decL b p3 e3 k).2.1 (decL b p3 e3 k).2.2 31).2.2).2.1)],
      (getP b (rdBytes b (decL b p3 e3 k).2.1 (decL b p3 e3 k).2.2 31).2.1 (rdBytes b (decL b p3 e3 k).2.1 (decL b p3 e3 k).2.2 31).2.2).2.2)) := rfl
      generalize (decL b p3 e3 k).1 = Q at *
      generalize (decL b p3 e3 k).2.1 = pk at *
      generalize (decL b p3 e3 k).2.2 = ek at *
      go_wp2_with fail
      refine (rBytes_any wr _ _ _ b pk ek 31 HD.out.rd (by decide) (by decide)).mono ?_
      rintro e w5 ⟨v5, rfl, ho5, hr5⟩
      have HD5 : Hid (DT w w5 b (rdBytes b pk ek 31).2.1 (rdBytes b pk ek 31).2.2 (.slice av k cv) Ps) := HD.out.step hr5
      have HB5 : Hid ((nmS (rdBytes b pk ek 31).1).size ≤ 31) := by rw [nmS_size]; exact (bytes_in HZ.out pk ek).1
      have hcv := string_own ho5
      obtain ⟨a5, c5, rfl, _, _, _⟩ := ho5.slice
      clear ho5 hr5 HD
      generalize nmS (rdBytes b pk ek 31).1 = nm at *
      generalize (rdBytes b pk ek 31).1.length = l5 at *
      generalize (rdBytes b pk ek 31).2.1 = p5 at *
      generalize (rdBytes b pk ek 31).2.2 = e5 at *
      go_wp2_with fail
      refine (get_any w5 _ _ _ b p5 e5 HD5.out.rd).mono ?_
      rintro e w6 ⟨a6, c6, rfl, ho6, hr6⟩
      have HD6 : Hid (DT w w6 b (getP b p5 e5).2.2.1 (getP b p5 e5).2.2.2 (.slice av k cv) Ps) := HD5.out.step hr6
      have HIn := getP_in HZ.out (p := p5) e5 HD5.out.rd.2.2.1
      have HUn : Hid ((∀ x ∈ Ps, ∀ g, cb x = some g → g < w5.heap.size) ∧ (∀ g, (Value.slice av k cv).ownBlock = some g → g < w5.heap.size) ∧ w.heap.size + 2 ≤ w5.heap.size) := HD5.out.under
      have HX6 : Hid (PrC w6 w5.heap.size ⟨nm, (getP b p5 e5).1, a6, (getP b p5 e5).2.1.length, c6, (getP b p5 e5).2.1⟩) := ⟨rfl, ho6, HIn.1, HIn.2.1, HB5.out, HIn.2.2⟩
      clear ho6 hr6 HD5 HIn HB5 hcv
      generalize (getP b p5 e5).2.1 = L6 at *
      generalize (getP b p5 e5).1 = q6 at *
      obtain ⟨p6, hp6⟩ : ∃ p6, p6 = (getP b p5 e5).2.2.1 := ⟨_, rfl⟩
      obtain ⟨e6, he6⟩ : ∃ e6, e6 = (getP b p5 e5).2.2.2 := ⟨_, rfl⟩
      have HL2 : Hid (decL b p3 e3 (k + 1) = (Q ++ [(nm, q6, L6)], p6, e6)) := by show decL b p3 e3 (k + 1) = _; rw [HL1.out, hp6, he6]
      rw [← hp6, ← he6] at HD6
      clear HL1 hp6 he6
      generalize L6.length = l6 at *
      obtain ⟨y1, y2, y3, y4⟩ := q6
      go_wp2_with (at_builtin; refine wpList_append_procs rfl _ _ rfl (w.heap.size + 2) (.slice av k cv) Ps rfl (HD6.out.own.alloc _) _ 1 1 [⟨nm, ⟨y1, y2, y3, y4⟩, a6, l6, c6, L6⟩] rfl rfl (proc_src w6 _ ⟨nm, ⟨y1, y2, y3, y4⟩, a6, l6, c6, L6⟩ rfl) (by have := HLn.out; simp; omega) (by have := HD6.out.under.2.2; simp only [World.size_alloc]; omega) ?_; intro v7 w7 ho7 hg7 hv7)
      have HD7 : Hid (DT w w7 b p6 e6 v7 (Ps ++ [⟨nm, ⟨y1, y2, y3, y4⟩, a6, l6, c6, L6⟩])) :=
        (HD6.out.kept ((Below.refl _ _).alloc (Nat.le_refl _) _)).put (HX6.out.same fun g hg => heap_alloc_old _ _ (HX6.out.lt g hg).2) HUn.out.1 HUn.out.2.1 HUn.out.2.2 ho7 hg7 hv7
      obtain ⟨a7, c7, rfl, _, _, _⟩ := ho7.slice
      have hl7 : (Ps ++ [(⟨nm, ⟨y1, y2, y3, y4⟩, a6, l6, c6, L6⟩ : Pr)]).length = k + 1 := by rw [List.length_append, HLn.out]; rfl
      rw [hl7] at HD7 ⊢
      have HC7 : Hid ((Ps ++ [(⟨nm, ⟨y1, y2, y3, y4⟩, a6, l6, c6, L6⟩ : Pr)]).map core = (decL b p3 e3 (k + 1)).1) := by
        show _ = _
        rw [HL2.out, List.map_append, HC.out]; rfl
      have HD8 : Hid (DT w w7 b (decL b p3 e3 (k + 1)).2.1 (decL b p3 e3 (k + 1)).2.2 (.slice a7 (k + 1) c7) (Ps ++ [⟨nm, ⟨y1, y2, y3, y4⟩, a6, l6, c6, L6⟩])) := by rw [HL2.out]; exact HD7.out
      clear ho7 hg7 hv7 hl7 HD7 HD6 HX6 HUn HL2 HLn HC
      go_wp2
      go_roundw
      case rel => exact ⟨k + 1, by omega, by go_num, a7, c7, _, rfl, HC7, HD8⟩
      case measure => simp [intOf]; omega
    · obtain rfl : k = m := by omega
      have HAe : Hid (decA b = ((decL b p3 e3 k).1, (decL b p3 e3 k).2.1, (decL b p3 e3 k).2.2)) := HA.out
      have HEe : Hid (decE b = rdEnd b (decL b p3 e3 k).2.1 (decL b p3 e3 k).2.2) := by show decE b = _; unfold decE; rw [HA.out]
      have HC2 : Hid (Ps.map core = (decA b).1) := by rw [HAe.out]; exact HC.out
      clear HA HAe HC
      generalize (decL b p3 e3 k).2.1 = pk at *
      generalize (decL b p3 e3 k).2.2 = ek at *
      go_wp2_with fail
      refine (rEnd_any wr _ _ _ b pk ek HD.out.rd).mono ?_
      rintro e w9 ⟨rfl, nq, hq⟩
      have HD9 : Hid (DT w w9 b pk ek (.slice av k cv) Ps) := by rw [hq]; exact HD.out.kept ⟨rfl, rfl, rfl, Nat.le_refl _, fun _ _ => rfl⟩
      rw [← HEe.out]
      clear hq HD
      by_cases hE : decE b = 0
      · have he0 : ek = 0 := by
          have := HEe.out
          rw [hE] at this
          unfold rdEnd at this
          split at this
          · cases this
          · exact this.symm
        subst he0
        have HE0 : Hid (decE b = 0) := hE
        rw [hE]
        clear hE HEe
        go_wp2_with fail
        obtain ⟨hlib, hln, hlc⟩ := HD9.out.lib
        refine (check_any w9 av k cv Ps hlib hln hlc (by omega)).mono ?_
        rintro e w10 ⟨rfl, hb10⟩
        have HD10 : Hid (DT w w10 b pk 0 (.slice av Ps.length cv) Ps) := by rw [HLn.out]; exact HD9.out.kept hb10
        have HB10 : Hid (Below w.heap.size w w10) := HD10.out.bel
        have HP1 : Hid ((checkN Ps).2 ≠ 0 → RPost w b (.returned (.tuple #[.slice none 0 0, .int .i64 ((checkN Ps).1 : Int), .int .i64 (checkN Ps).2])) w10) := fun h => ⟨HB10.out, .inr ⟨HE0.out, Ps, av, cv, pk, HC2.out, HD10.out, .inl ⟨h, rfl⟩⟩⟩
        have HP2 : Hid ((checkN Ps).2 = 0 → RPost w b (.returned (.tuple #[.slice av k cv, .int .i64 0, .int .i64 0])) w10) := fun h => ⟨HB10.out, .inr ⟨HE0.out, Ps, av, cv, pk, HC2.out, HD10.out, .inr ⟨h, by rw [HLn.out]⟩⟩⟩
        clear hb10 hlib hln hlc HD9 HD10 HC2 HB10 HLn
        generalize (checkN Ps).1 = c1 at *
        generalize (checkN Ps).2 = c2 at *
        by_cases hc : c2 = 0
        · have HF := HP2.out hc
          have HFF : Hid (RPost w b (.returned (.tuple #[.slice av k cv, .int .i64 0, .int .i64 0])) w10) := HF
          subst hc
          clear HP1 HP2 HF
          go_wp2
          refine bodyPost_ret (v := .tuple #[.slice av k cv, .int .i64 0, .int .i64 0]) ?_ rfl HFF.out
          simp [results, Try.results7]
        · have HFF : Hid (RPost w b (.returned (.tuple #[.slice none 0 0, .int .i64 (c1 : Int), .int .i64 c2])) w10) := HP1.out hc
          have hc' : (c2 != 0) = true := by simpa using hc
          clear HP1 HP2
          go_wp2
          refine bodyPost_ret (v := .tuple #[.slice none 0 0, .int .i64 (c1 : Int), .int .i64 c2]) ?_ rfl HFF.out
          simp [results, Try.results7]
      · have HFF : Hid (RPost w b (.returned (.tuple #[.slice none 0 0, .int .i64 0, .int .i64 (decE b)])) w9) := ⟨HD9.out.bel, .inl ⟨hE, rfl⟩⟩
        have hE' : (decE b != 0) = true := by simpa using hE
        clear HEe HC2 HD9
        generalize decE b = ee at *
        go_wp2
        refine bodyPost_ret (v := .tuple #[.slice none 0 0, .int .i64 0, .int .i64 ee]) ?_ rfl HFF.out
        simp [results, Try.results7]
end Go.Proofs.Ytkjmeknaedapjaa
