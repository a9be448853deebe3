import Derived.Test.YtkmafpfldnapjaaGreatDoorKLDMath
import Derived.Deep.RegionLaw
import Derived.Deep.DeepCutAuto
import Derived.Test.YtkmafpfldnapjaaGreatDoorKALGiv
import Derived.Test.YtkmafpfldnapjaaGreatDoorKALList
/-
  THE WALK OF Decode.
-/
namespace Go.Proofs.YtkmafpfldnapjaaGreatDoor
open Go.RowKit Go.Sort

theorem nmS_inj {X Y : List Nat} (hX : ∀ z ∈ X, z < 256) (hY : ∀ z ∈ Y, z < 256) (h : nmS X = nmS Y) : X = Y := by
  rw [← nmB_nmS hX, h, nmB_nmS hY]
theorem nmS_toList (X : List Nat) : (nmS X).toList = X.map UInt8.ofNat := by
  rw [ByteArray.toList_eq]; simp [nmS]
set_option maxRecDepth 100000 in
set_option maxHeartbeats 2000000 in
theorem decode_any (w : World) (ao : Option Addr) (n cap : Nat) (b : List Nat) (h : BytesAt w ao b) (hn : n = b.length) (hm : n ≤ 140737488355328) :
    Calls Tryz.prog 19 #[.slice ao n cap] w fun e w' => RPost w b e w' := by
  have H : Hid (BytesAt w ao b) := h
  have HN : Hid (n = b.length) := hn
  have HZ : Hid (∀ z ∈ b, z < 256) := h.1
  clear h hn
  go_enter Tryz.func19, Tryz.ntmps19
  go_wp2_with fail
  refine (read_any w ao cap n b HN.out H.out hm).mono ?_
  rintro e w1 ⟨rfl, hr1, hb1, hs1⟩
  rw [HN.out] at hr1
  have HD1 : Hid (DT w w1 b 0 0 (.slice none 0 0) []) := ⟨hr1, hb1, OwnP.nil _ _, (fun x hx => by cases hx), (fun x hx => by cases hx), List.Pairwise.nil⟩
  clear hr1 hb1 hs1
  go_wp2_with fail
  refine (rRaw_any w1 _ _ _ b 0 0 4 HD1.out.rd).mono ?_
  rintro e w2 ⟨v2, rfl, ho2, hr2⟩
  have HD2 : Hid (DT w w2 b (rdRaw b 0 0 4).2.1 (rdRaw b 0 0 4).2.2 (.slice none 0 0) []) := HD1.out.step hr2
  have hcv := string_own ho2
  obtain ⟨a2, c2, rfl, hb2, _, _⟩ := ho2.slice
  have HX : Hid (∀ z ∈ (rdRaw b 0 0 4).1, z < 256) := ho2.1
  have HE : Hid (hdE b = if (rdRaw b 0 0 4).1 = [80, 82, 76, 49] then (rdRaw b 0 0 4).2.2 else failE (rdRaw b 0 0 4).2.2 11) := rfl
  clear ho2 hr2 hb2 HD1
  generalize hX : (rdRaw b 0 0 4).1 = X at *
  have HXX : Hid ((rdRaw b 0 0 4).1 = X) := hX
  clear hX
  generalize (rdRaw b 0 0 4).2.2 = e1 at *
  go_upto_if 16 with fail
  have HQ0 : ((nmS X).toList == ([80, 82, 76, 49] : List UInt8)) = true ↔ X = [80, 82, 76, 49] := by
    rw [beq_iff_eq, nmS_toList]
    constructor
    · intro e
      refine nmS_inj HX.out (by decide) ?_
      unfold nmS; rw [e]; rfl
    · intro e; rw [e]; rfl
  generalize ((nmS X).toList == ([80, 82, 76, 49] : List UInt8)) = q at *
  have HQ : Hid (q = true ↔ X = [80, 82, 76, 49]) := HQ0
  clear HQ0
  go_cut [] (fun wx => Hid (DT w wx b (rdRaw b 0 0 4).2.1 (hdE b) (.slice none 0 0) []))
  case first =>
    cases q with
    | true =>
      have HS : Hid (DT w w2 b (rdRaw b 0 0 4).2.1 (hdE b) (.slice none 0 0) []) := by rw [HE.out, if_pos (HQ.out.1 rfl)]; exact HD2.out
      go_wp2_with fail
      go_meet
      case rel => exact HS
    | false =>
      go_wp2_with fail
      refine (rFail_any w2 _ _ _ b _ e1 11 HD2.out.rd).mono ?_
      rintro e w3 ⟨rfl, hr3⟩
      have HS : Hid (DT w w3 b (rdRaw b 0 0 4).2.1 (hdE b) (.slice none 0 0) []) := by rw [HE.out, if_neg (fun h => by have := HQ.out.2 h; cases this)]; exact HD2.out.step hr3
      clear hr3
      go_wp2_with fail
      go_meet
      case rel => exact HS
  have HD3 := hcut
  clear hcut HD2 HX HE HXX HQ hcv
  generalize wc = w3 at *
  obtain ⟨⟨m, p3, e3⟩, hU⟩ : ∃ x, x = decU b := ⟨_, rfl⟩
  have HU : Hid (rdUpto b (rdRaw b 0 0 4).2.1 (hdE b) 64 = (m, p3, e3)) := by rw [hU]; rfl
  have HA : Hid (decA b = decL b p3 e3 m) := by show decA b = _; unfold decA; rw [← hU]
  have hm64 : m ≤ 64 := by have := rdUpto_most b (rdRaw b 0 0 4).2.1 (hdE b) 64; rw [HU.out] at this; exact this
  clear hU
  go_wp2_with fail
  refine (rUpto_any w3 _ _ _ b _ _ 64 HD3.out.rd).mono ?_
  rintro e w4 ⟨rfl, hr4⟩
  rw [HU.out] at hr4 ⊢
  have HD4 : Hid (DT w w4 b p3 e3 (.slice none 0 0) []) := HD3.out.step hr4
  clear hr4 HD3 HU
  go_wp2_with fail
  go_loopw [6, 21] (fun v x wr => ∃ k : Nat, k ≤ m ∧ x = .int .u64 (k : Int) ∧ ∃ av cv Ps, v = .slice av k cv ∧ Hid (Ps.map core = (decL b p3 e3 k).1) ∧ Hid (DT w wr b (decL b p3 e3 k).2.1 (decL b p3 e3 k).2.2 (.slice av k cv) Ps)) (fun _ x _ => m - (intOf x).toNat)
  case atStart => exact ⟨0, Nat.zero_le _, rfl, none, 0, [], rfl, rfl, HD4⟩
  case round =>
    clear HD4
    obtain ⟨k, hk, rfl, av, cv, Ps, rfl, HC, HD⟩ := hrel
    have HLn : Hid (Ps.length = k) := HD.out.lib.2.1.symm
    by_cases hlt : k < m
    · have HL1 : Hid (decL b p3 e3 (k + 1) = ((decL b p3 e3 k).1 ++ [(nmS (rdBytes b (decL b p3 e3 k).2.1 (decL b p3 e3 k).2.2 31).1, (getP b (rdBytes b (decL b p3 e3 k).2.1 (decL b p3 e3 k).2.2 31).2.1 (rdBytes b (decL b p3 e3 k).2.1 (decL b p3 e3 k).2.2 31).2.2).1, (getP b (rdBytes b (decL b p3 e3 k).2.1 (decL b p3 e3 k).2.2 31).2.1 (rdBytes b (decL b p3 e3 k).2.1 (decL b p3 e3 k).2.2 31).2.2).2.1)],
      (getP b (rdBytes b (decL b p3 e3 k).2.1 (decL b p3 e3 k).2.2 31).2.1 (rdBytes b (decL b p3 e3 k).2.1 (decL b p3 e3 k).2.2 31).2.2).2.2)) := rfl
      generalize (decL b p3 e3 k).1 = Q at *
      generalize (decL b p3 e3 k).2.1 = pk at *
      generalize (decL b p3 e3 k).2.2 = ek at *
      go_wp2_with fail
      refine (rBytes_any wr _ _ _ b pk ek 31 HD.out.rd (by decide) (by decide)).mono ?_
      rintro e w5 ⟨v5, rfl, ho5, hr5⟩
      have HD5 : Hid (DT w w5 b (rdBytes b pk ek 31).2.1 (rdBytes b pk ek 31).2.2 (.slice av k cv) Ps) := HD.out.step hr5
      have HB5 : Hid ((nmS (rdBytes b pk ek 31).1).size ≤ 31) := by rw [nmS_size]; exact (bytes_in HZ.out pk ek).1
      have hcv := string_own ho5
      obtain ⟨a5, c5, rfl, _, _, _⟩ := ho5.slice
      clear ho5 hr5 HD
      generalize nmS (rdBytes b pk ek 31).1 = nm at *
      generalize (rdBytes b pk ek 31).1.length = l5 at *
      generalize (rdBytes b pk ek 31).2.1 = p5 at *
      generalize (rdBytes b pk ek 31).2.2 = e5 at *
      go_wp2_with fail
      refine (get_any w5 _ _ _ b p5 e5 HD5.out.rd).mono ?_
      rintro e w6 ⟨a6, c6, rfl, ho6, hr6⟩
      have HD6 : Hid (DT w w6 b (getP b p5 e5).2.2.1 (getP b p5 e5).2.2.2 (.slice av k cv) Ps) := HD5.out.step hr6
      have HIn := getP_in HZ.out (p := p5) e5 HD5.out.rd.2.2.1
      have HUn : Hid ((∀ x ∈ Ps, ∀ g, cb x = some g → g < w5.heap.size) ∧ (∀ g, (Value.slice av k cv).ownBlock = some g → g < w5.heap.size) ∧ w.heap.size + 2 ≤ w5.heap.size) := HD5.out.under
      have HX6 : Hid (PrC w6 w5.heap.size ⟨nm, (getP b p5 e5).1, a6, (getP b p5 e5).2.1.length, c6, (getP b p5 e5).2.1⟩) := ⟨rfl, ho6, HIn.1, HIn.2.1, HB5.out, HIn.2.2⟩
      clear ho6 hr6 HD5 HIn HB5 hcv
      generalize (getP b p5 e5).2.1 = L6 at *
      generalize (getP b p5 e5).1 = q6 at *
      obtain ⟨p6, hp6⟩ : ∃ p6, p6 = (getP b p5 e5).2.2.1 := ⟨_, rfl⟩
      obtain ⟨e6, he6⟩ : ∃ e6, e6 = (getP b p5 e5).2.2.2 := ⟨_, rfl⟩
      have HL2 : Hid (decL b p3 e3 (k + 1) = (Q ++ [(nm, q6, L6)], p6, e6)) := by show decL b p3 e3 (k + 1) = _; rw [HL1.out, hp6, he6]
      rw [← hp6, ← he6] at HD6
      clear HL1 hp6 he6
      generalize L6.length = l6 at *
      obtain ⟨y1, y2, y3, y4⟩ := q6
      go_wp2_with (at_builtin; refine wpList_append_procs rfl _ _ rfl (w.heap.size + 2) (.slice av k cv) Ps rfl (HD6.out.own.alloc _) _ 1 1 [⟨nm, ⟨y1, y2, y3, y4⟩, a6, l6, c6, L6⟩] rfl rfl (proc_src w6 _ ⟨nm, ⟨y1, y2, y3, y4⟩, a6, l6, c6, L6⟩ rfl) (by have := HLn.out; simp; omega) (by have := HD6.out.under.2.2; simp only [World.size_alloc]; omega) ?_; intro v7 w7 ho7 hg7 hv7)
      have HD7 : Hid (DT w w7 b p6 e6 v7 (Ps ++ [⟨nm, ⟨y1, y2, y3, y4⟩, a6, l6, c6, L6⟩])) :=
        (HD6.out.kept ((Below.refl _ _).alloc (Nat.le_refl _) _)).put (HX6.out.same fun g hg => heap_alloc_old _ _ (HX6.out.lt g hg).2) HUn.out.1 HUn.out.2.1 HUn.out.2.2 ho7 hg7 hv7
      obtain ⟨a7, c7, rfl, _, _, _⟩ := ho7.slice
      have hl7 : (Ps ++ [(⟨nm, ⟨y1, y2, y3, y4⟩, a6, l6, c6, L6⟩ : Pr)]).length = k + 1 := by rw [List.length_append, HLn.out]; rfl
      rw [hl7] at HD7 ⊢
      have HC7 : Hid ((Ps ++ [(⟨nm, ⟨y1, y2, y3, y4⟩, a6, l6, c6, L6⟩ : Pr)]).map core = (decL b p3 e3 (k + 1)).1) := by
        show _ = _
        rw [HL2.out, List.map_append, HC.out]; rfl
      have HD8 : Hid (DT w w7 b (decL b p3 e3 (k + 1)).2.1 (decL b p3 e3 (k + 1)).2.2 (.slice a7 (k + 1) c7) (Ps ++ [⟨nm, ⟨y1, y2, y3, y4⟩, a6, l6, c6, L6⟩])) := by rw [HL2.out]; exact HD7.out
      clear ho7 hg7 hv7 hl7 HD7 HD6 HX6 HUn HL2 HLn HC
      go_wp2
      go_roundw
      case rel => exact ⟨k + 1, by omega, by go_num, a7, c7, _, rfl, HC7, HD8⟩
      case measure => simp [intOf]; omega
    · obtain rfl : k = m := by omega
      have HAe : Hid (decA b = ((decL b p3 e3 k).1, (decL b p3 e3 k).2.1, (decL b p3 e3 k).2.2)) := HA.out
      have HEe : Hid (decE b = rdEnd b (decL b p3 e3 k).2.1 (decL b p3 e3 k).2.2) := by show decE b = _; unfold decE; rw [HA.out]
      have HC2 : Hid (Ps.map core = (decA b).1) := by rw [HAe.out]; exact HC.out
      clear HA HAe HC
      generalize (decL b p3 e3 k).2.1 = pk at *
      generalize (decL b p3 e3 k).2.2 = ek at *
      go_wp2_with fail
      refine (rEnd_any wr _ _ _ b pk ek HD.out.rd).mono ?_
      rintro e w9 ⟨rfl, nq, hq⟩
      have HD9 : Hid (DT w w9 b pk ek (.slice av k cv) Ps) := by rw [hq]; exact HD.out.kept ⟨rfl, rfl, rfl, Nat.le_refl _, fun _ _ => rfl⟩
      rw [← HEe.out]
      clear hq HD
      by_cases hE : decE b = 0
      · have he0 : ek = 0 := by
          have := HEe.out
          rw [hE] at this
          unfold rdEnd at this
          split at this
          · cases this
          · exact this.symm
        subst he0
        have HE0 : Hid (decE b = 0) := hE
        rw [hE]
        clear hE HEe
        go_wp2_with fail
        obtain ⟨hlib, hln, hlc⟩ := HD9.out.lib
        refine (check_any w9 av k cv Ps hlib hln hlc (by omega)).mono ?_
        rintro e w10 ⟨rfl, hb10⟩
        have HD10 : Hid (DT w w10 b pk 0 (.slice av Ps.length cv) Ps) := by rw [HLn.out]; exact HD9.out.kept hb10
        have HB10 : Hid (Below w.heap.size w w10) := HD10.out.bel
        have HP1 : Hid ((checkN Ps).2 ≠ 0 → RPost w b (.returned (.tuple #[.slice none 0 0, .int .i64 ((checkN Ps).1 : Int), .int .i64 (checkN Ps).2])) w10) := fun h => ⟨HB10.out, .inr ⟨HE0.out, Ps, av, cv, pk, HC2.out, HD10.out, .inl ⟨h, rfl⟩⟩⟩
        have HP2 : Hid ((checkN Ps).2 = 0 → RPost w b (.returned (.tuple #[.slice av k cv, .int .i64 0, .int .i64 0])) w10) := fun h => ⟨HB10.out, .inr ⟨HE0.out, Ps, av, cv, pk, HC2.out, HD10.out, .inr ⟨h, by rw [HLn.out]⟩⟩⟩
        clear hb10 hlib hln hlc HD9 HD10 HC2 HB10 HLn
        generalize (checkN Ps).1 = c1 at *
        generalize (checkN Ps).2 = c2 at *
        by_cases hc : c2 = 0
        · have HF := HP2.out hc
          have HFF : Hid (RPost w b (.returned (.tuple #[.slice av k cv, .int .i64 0, .int .i64 0])) w10) := HF
          subst hc
          clear HP1 HP2 HF
          go_wp2
          refine bodyPost_ret (v := .tuple #[.slice av k cv, .int .i64 0, .int .i64 0]) ?_ rfl HFF.out
          simp [results, Tryz.results19]
        · have HFF : Hid (RPost w b (.returned (.tuple #[.slice none 0 0, .int .i64 (c1 : Int), .int .i64 c2])) w10) := HP1.out hc
          have hc' : (c2 != 0) = true := by simpa using hc
          clear HP1 HP2
          go_wp2
          refine bodyPost_ret (v := .tuple #[.slice none 0 0, .int .i64 (c1 : Int), .int .i64 c2]) ?_ rfl HFF.out
          simp [results, Tryz.results19]
      · have HFF : Hid (RPost w b (.returned (.tuple #[.slice none 0 0, .int .i64 0, .int .i64 (decE b)])) w9) := ⟨HD9.out.bel, .inl ⟨hE, rfl⟩⟩
        have hE' : (decE b != 0) = true := by simpa using hE
        clear HEe HC2 HD9
        generalize decE b = ee at *
        go_wp2
        refine bodyPost_ret (v := .tuple #[.slice none 0 0, .int .i64 0, .int .i64 ee]) ?_ rfl HFF.out
        simp [results, Tryz.results19]
end Go.Proofs.YtkmafpfldnapjaaGreatDoor
/-
  AsmSound: its library's bytes; what Assemble leaves of any text.
-/
namespace Go.Proofs.YtkmafpfldnapjaaGreatDoor
open Go.RowKit Go.Sort

theorem RowAt.atS {W : World} {g : Nat} {L : List Nat} (h : RowAt W g L) (hz : ∀ z ∈ L, z < 256) : BytesAt W (some ⟨g, 0, none⟩) L :=
  ⟨hz, .inr ⟨g, 0, rfl, fun j hj => by rw [Nat.zero_add]; exact h.cell j hj⟩⟩
theorem procsB_ltS (Ps : List Pr) : ∀ z ∈ procsB Ps, z < 256 := by
  induction Ps with
  | nil => intro z hz; simp [procsB] at hz
  | cons x Ps ih =>
    intro z hz
    simp only [procsB, procB, List.mem_append] at hz
    rcases hz with ((h | h) | h) | h
    · exact uint_lt _ _ z h
    · exact nmB_lt _ z h
    · exact written_lt _ _ z h
    · exact ih z h
theorem encN_ltS (Ps : List Pr) : ∀ z ∈ encN Ps, z < 256 := by
  intro z hz
  simp only [encN, headL, List.mem_append] at hz
  rcases hz with (h | h) | h
  · simp at h; omega
  · exact uint_lt _ _ z h
  · exact procsB_ltS Ps z h
theorem encN_lengthS {Ps : List Pr} (h : (checkN Ps).2 = 0) : (encN Ps).length ≤ 300000 := by
  have h1 := procsB_length Ps (check_small h)
  have h2 := (check_name h).1
  have h3 := uint_length 10 Ps.length
  simp only [encN, headL, List.length_append, List.length_cons, List.length_nil]
  omega
/-- a sound library is encoded -/
theorem encS_any (w : World) (ao : Option Addr) (n cap : Nat) (Ps : List Pr) (h : LibAt w ao Ps) (hn : n = Ps.length) (hc : n ≤ cap) (hm : n ≤ 140737488351232) (hk : (checkN Ps).2 = 0) :
    Calls Tryz.prog 18 #[.slice ao n cap] w fun e w' => ∃ a3 l3 c3, e = .returned (.tuple #[.slice a3 l3 c3, .int .i64 0]) ∧ BytesAt w' a3 (encN Ps) ∧ l3 = (encN Ps).length ∧ Go.RowKit.Below w.heap.size w w' := by
  refine (encode_any w ao n cap Ps h hn hc hm).mono ?_
  rintro e w' ⟨hp, hb⟩
  rcases hp with ⟨h0, _⟩ | ⟨_, g, he, hr, _⟩
  · exact absurd hk h0
  · exact ⟨_, _, _, he, hr.atS (encN_ltS Ps), rfl, hb⟩
/-- its bytes are decoded to it -/
theorem decS_any (w : World) (a3 : Option Addr) (l3 c3 : Nat) (Ps : List Pr) (h : BytesAt w a3 (encN Ps)) (hl : l3 = (encN Ps).length) (hk : (checkN Ps).2 = 0) (hx : ∀ x ∈ Ps, ∀ k ∈ x.L, KIn k) :
    Calls Tryz.prog 19 #[.slice a3 l3 c3] w fun e w' => ∃ Qs a4 c4, Qs.map core = Ps.map core ∧ e = .returned (.tuple #[.slice a4 Ps.length c4, .int .i64 0, .int .i64 0]) ∧ LibAt w' a4 Qs ∧ Go.RowKit.Below w.heap.size w w' := by
  refine (decode_any w a3 l3 c3 (encN Ps) h hl (by rw [hl]; have := encN_lengthS hk; omega)).mono ?_
  rintro e w' ⟨hb, hp⟩
  obtain ⟨hA, hE⟩ := dec_at (check_name hk).1 (Sd.of hk hx)
  rcases hp with ⟨h0, _⟩ | ⟨_, Qs, a4, c4, p4, hq, hd, hcs⟩
  · exact absurd hE h0
  · rw [hA] at hq
    have hq' : Qs.map core = Ps.map core := hq
    have hl' : Qs.length = Ps.length := by simpa using congrArg List.length hq'
    rcases hcs with ⟨h0, _⟩ | ⟨_, he⟩
    · rw [check_core hq', hk] at h0; exact absurd rfl h0
    · exact ⟨Qs, a4, c4, hq', by rw [he, hl'], hd.lib.1, hb⟩
/-- a text that is too long -/
theorem assemble_long (w : World) (s : ByteArray) (h : 65536 < s.size) : Calls Tryz.prog 8 #[.string s] w fun e w' => e = .returned (.tuple #[.slice none 0 0, .iface 38 (.int .i64 44)]) ∧ w' = w := by
  have h' : (65536 : Int) < (s.size : Int) := by omega
  go_enter Tryz.func8, Tryz.ntmps8
  go_wp2_with fail
  go_ret2
  exact ⟨rfl, rfl⟩
/-- what Assemble leaves of any text -/
def SndPost (w : World) (l : List UInt8) (e : Ending) (w' : World) : Prop := Go.RowKit.Below w.heap.size w w' ∧
  ((∃ ty p, e = .returned (.tuple #[.slice none 0 0, .iface ty p])) ∨
   (l.length ≤ 65536 ∧ ∃ go cap Qs, e = .returned (.tuple #[.slice go Qs.length cap, .nilIface]) ∧ LibAt w' go Qs ∧ Qs.length ≤ cap ∧ (checkN Qs).2 = 0 ∧ Qs.length ≤ 65537))
theorem snd_any (w : World) (l : List UInt8) (hv : NumVars w) (hn : NmAt w) (hkw : KwAt w) (he : ErrVar w) (hB : 8 ≤ w.heap.size) :
    Calls Tryz.prog 8 #[.string (S l)] w fun e w' => SndPost w l e w' := by
  by_cases hl : l.length ≤ 65536
  · refine (assemble_any w l hl hv hn hkw he hB).mono ?_
    intro e w' hp
    rcases hp with ⟨v, E, h1, _, ⟨b, h3, _⟩, h4⟩ | ⟨M, B, line, a, Qs, vl, vn, vm, vj, W3, h1, h2, h3, h4, h5⟩
    · exact ⟨h4, .inl ⟨_, _, by rw [h1, h3]⟩⟩
    · have hsz := text_sz hl h1
      rcases h5 with ⟨v, h6, _, ⟨b, h7, _⟩, _⟩ | ⟨v, h6, _, _, ⟨b, h7, _⟩, _⟩ | ⟨h6, _, hc, h7⟩
      · exact ⟨h4, .inl ⟨_, _, by rw [h6, h7]⟩⟩
      · exact ⟨h4, .inl ⟨_, _, by rw [h6, h7]⟩⟩
      · have hA := h2.below h7
        obtain ⟨lo, lc, rfl, hlc⟩ := own_slice hA.lib
        refine ⟨h4, .inr ⟨hl, lo, lc, Qs, h6, hA.libAt hsz, hlc.2.1, hc, ?_⟩⟩
        have h8 : Qs.length = a.lib.length := by rw [hA.eq, List.length_map]
        have := hsz.lib
        have := hsz.top
        omega
  · refine (assemble_long w (S l) (by rw [S_size]; omega)).mono ?_
    rintro e w' ⟨rfl, rfl⟩
    exact ⟨Go.RowKit.Below.refl _ _, .inl ⟨_, _, rfl⟩⟩
end Go.Proofs.YtkmafpfldnapjaaGreatDoor
/-
  AsmLoose: what its loop leaves.
-/
namespace Go.Proofs.YtkmafpfldnapjaaGreatDoor
open Go.RowKit Go.Sort

theorem OwnC.kept {w w' : World} {base : Nat} {v : Value} {L : List Nat} {g cap : Nat} (h : OwnC w base v L g cap) (hb : Go.RowKit.Below w.heap.size w w') : OwnC w' base v L g cap :=
  ⟨h.eq, h.lo, h.le, h.mx, Nat.lt_of_lt_of_le h.lt hb.size, fun j hj => ⟨by rw [hb.cell (p := ⟨g, j, none⟩) h.lt]; exact (h.ok j hj).1, by rw [hb.frozen (p := ⟨g, j, none⟩) h.lt]; exact (h.ok j hj).2⟩, fun j u hu => by rw [hb.cell (p := ⟨g, j, none⟩) h.lt]; exact h.at_ j u hu⟩
theorem stringC {W : World} {base : Nat} {v : Value} {bs : List Nat} {g cap : Nat} (h : OwnC W base v bs g cap) (hz : ∀ z ∈ bs, z < 256) : (convert 46 9 v).run Tryz.prog W = .ok (.string (nmS bs)) W := by
  have e : bs.length = (bs.map UInt8.ofNat).length := by simp
  rw [h.eq, e]
  refine run_convert_bytes_back (P := Tryz.prog) W 46 9 5 ⟨g, 0, none⟩ cap (bs.map UInt8.ofNat) Tryz.underlying46 Tryz.underlying5 Tryz.underlying9 fun j hj => ?_
  have hj' : j < bs.length := by simpa using hj
  rw [addr_add, Nat.zero_add]
  rw [h.at_ j (b8 bs[j]) (by simp [List.getElem?_eq_getElem hj'])]
  rw [List.getElem_map, u8_back _ (hz _ (List.getElem_mem hj'))]
  rfl
theorem nb_lt (l : List UInt8) : ∀ z ∈ nb l, z < 256 := fun z hz => by
  obtain ⟨b, _, rfl⟩ := List.mem_map.1 hz
  exact b.toNat_lt
/-- what stands in the loop -/
structure LO (w6 wr : World) (v : Value) (X : List UInt8) (g c : Nat) : Prop where
  own : OwnC wr w6.heap.size v (nb X) g c
  bel : Go.RowKit.Below w6.heap.size w6 wr
theorem LO.eq {w6 wr : World} {v : Value} {X : List UInt8} {g c : Nat} (h : LO w6 wr v X g c) : v = .slice (some ⟨g, 0, none⟩) X.length c := by rw [h.own.eq, nb_len]
theorem losB_len (g : List UInt8) (b c : UInt8) : (losB g b c).length ≤ g.length + 6 := by
  unfold losB
  split
  · simp
  · split
    · simp
    · simp
theorem losL_len (g : List UInt8) (b : UInt8) : ∀ l : List UInt8, (losL g b l).length ≤ l.length * (g.length + 6)
  | [] => by simp [losL]
  | c :: l => by
    have h1 := losL_len g b l
    have h2 := losB_len g b c
    have e : losL g b (c :: l) = losB g b c ++ losL g b l := by simp [losL]
    rw [e, List.length_append, List.length_cons, Nat.add_mul, Nat.one_mul]
    omega
theorem losL_take (g : List UInt8) (b : UInt8) {l : List UInt8} {k : Nat} (h : k < l.length) : losL g b (l.take (k + 1)) = losL g b (l.take k) ++ losB g b (l.getD k 0) := by
  unfold losL
  rw [List.take_add_one, List.getElem?_eq_getElem h, List.flatMap_append, List.getD_eq_getElem?_getD, List.getElem?_eq_getElem h]
  simp
/-- the bytes of a list that is built for an append -/
theorem src_of {w : World} {f : Nat} (zs : List Nat) (arr : Array Value) (h : arr = (zs.map b8).toArray) (hf : f = w.heap.size) : ∀ j u, (zs.map b8)[j]? = some u → (w.alloc (.cells arr 5)).cell? ((⟨f, 0, none⟩ : Addr).add j) = some u := fun j u hu => by
  subst hf
  have hh : (w.alloc (.cells arr 5)).heap[w.heap.size]? = some (.cells arr 5 (0, 0)) := heap_alloc_new _ _ rfl
  rw [add_at]
  unfold World.cell?
  rw [hh]
  show arr[j]? = some u
  rw [h]
  simpa using hu
/-- what Assemble leaves of the loosened text -/
def LsPost (w : World) (Ps : List Pr) (T : List UInt8) (e : Ending) (w' : World) : Prop := (65536 < T.length ∧ e = .returned (.tuple #[.slice none 0 0, .iface 38 (.int .i64 44)]) ∧ w' = w) ∨ (T.length ≤ 65536 ∧ LibOut w Ps e w')
theorem ls_any (w : World) (Ps : List Pr) (T : List UInt8) (hc : (checkN Ps).2 = 0) (hk : ∀ x ∈ Ps, NIn x.p ∧ ∀ k ∈ x.L, KIn k) (ht : neW (tokN T) = neW (tokN (listT Ps))) (hv : NumVars w) (hn : NmAt w) (hkw : KwAt w) (he : ErrVar w) (hB : 8 ≤ w.heap.size) :
    Calls Tryz.prog 8 #[.string (S T)] w fun e w' => LsPost w Ps T e w' := by
  by_cases hl : T.length ≤ 65536
  · exact (assemble_any w T hl hv hn hkw he hB).mono fun _ _ hp => .inr ⟨hl, lib_out hl hp hc hk ht⟩
  · refine (assemble_long w (S T) (by rw [S_size]; omega)).mono ?_
    rintro e w' ⟨rfl, rfl⟩
    exact .inl ⟨by omega, rfl, rfl⟩
end Go.Proofs.YtkmafpfldnapjaaGreatDoor
/-
  AsmLoose: THE LAW's WALK.
-/
namespace Go.Proofs.YtkmafpfldnapjaaGreatDoor
open Go.RowKit Go.Sort

set_option maxRecDepth 100000 in
set_option maxHeartbeats 4000000 in
theorem lawLoose (w : World) (ao : Option Addr) (n cap : Nat) (Ps : List Pr) (h : LibAt w ao Ps) (hn : n = Ps.length) (hm : n ≤ 140737488351232) (gl : List UInt8) (hgl : gl.length ≤ 1048576) (b : UInt8) (hv : NumVars w) (hs : Vs w) (he : ErrVar w) (hB : 8 ≤ w.heap.size) :
    Calls Tryz.prog 6 #[.slice ao n cap, .string (S gl), .int .u8 (b.toNat : Int)] w fun e w' => e = .returned (.bool true) ∧ Go.RowKit.Below w.heap.size w w' := by
  have H : Hid (LibAt w ao Ps) := h
  have HN : Hid (n = Ps.length) := hn
  have HWk : Hid (∀ W', Go.RowKit.Below w.heap.size w W' → Calls Tryz.prog 13 #[] W' fun e w' => e = .returned (.bool true) ∧ Go.RowKit.Below W'.heap.size W' w') := fun W' hb => works_any W' (hv.kept hb) (hs.kept hb) (he.bel hb hB) (by have := hb.size; omega)
  have HLi : Hid (∀ W', Go.RowKit.Below w.heap.size w W' → ∀ la lc Ls, LibAt W' la Ls → n = Ls.length → n ≤ lc → Calls Tryz.prog 14 #[.slice la n lc] W' fun e w' => e = .returned (.tuple #[.string (S (outT Ls)), .int .i64 (outE Ls)]) ∧ Go.RowKit.Below W'.heap.size W' w') := fun W' hb la lc Ls h1 h2 h3 => list_any W' la n lc Ls h1 h2 h3 hm (hs.kept hb)
  have HAs : Hid (∀ W', Go.RowKit.Below w.heap.size w W' → (checkN Ps).2 = 0 → looR false gl = true → isBl b → Calls Tryz.prog 8 #[.string (S (gl ++ losL gl b (listT Ps)))] W' fun e w' => LsPost W' Ps (gl ++ losL gl b (listT Ps)) e w') := fun W' hb hc hg hbl => ls_any W' Ps _ hc (fun x hx => ⟨(h.ok x hx).nin, (h.ok x hx).kin⟩) (loose_text hc (fun x hx => ⟨(h.ok x hx).nin, (h.ok x hx).kin⟩) hg hbl) (hv.kept hb) (hs.kept hb).nm (nw_kw (hs.kept hb).nw) (he.bel hb hB) (by have := hb.size; omega)
  have HLo : Hid (∀ W', Calls Tryz.prog 20 #[.string (S gl)] W' fun e w' => e = .returned (.bool (looR false gl)) ∧ w' = W') := fun W' => by
    have := loose_any W' (S gl) (by rw [S_size]; omega)
    rw [S_data] at this
    exact this
  have hbb : b.toNat < 256 := b.toNat_lt
  clear h hn hv hs he hB
  obtain ⟨gx, hgx⟩ : ∃ gx, gx = S gl := ⟨_, rfl⟩
  have HGx := hidA hgx
  rw [← hgx] at HLo ⊢
  clear hgx
  obtain ⟨bn, hbn⟩ : ∃ bn : Int, bn = (b.toNat : Int) := ⟨_, rfl⟩
  have HBn := hidA hbn
  rw [← hbn]
  clear hbn
  go_enter Tryz.func6, Tryz.ntmps6
  go_wp2_with fail
  refine (parts_any w ao n cap Ps H.out HN.out hm).mono ?_
  rintro e w1 ⟨⟨r, rfl, hr⟩, q, hw1⟩
  have HB1 : Hid (Go.RowKit.Below w.heap.size w w1) := by rw [hw1]; exact ((Grew.refl w).drewN q).below
  have HR : Hid (0 ≤ r → n ≤ 100000 ∧ ∀ x ∈ Ps, x.n ≤ 100000) := fun h0 => ⟨(hr h0).1, fun x hx => ((hr h0).2 x hx).2⟩
  clear hr hw1
  by_cases h0 : r < 0
  · go_wp2_with fail
    go_ret
    exact ⟨rfl, HB1.out⟩
  obtain ⟨hm1, hx1⟩ := HR.out (by omega)
  have HX := hidA hx1
  have HW1 := hidA (HWk.out w1 HB1.out)
  clear hx1 HR HWk
  go_wp2_with fail
  refine HW1.out.mono ?_
  rintro e w2 ⟨rfl, hb2⟩
  have HB2 : Hid (Go.RowKit.Below w.heap.size w w2) := HB1.out.trans (hb2.mono HB1.out.size)
  have HL2 := hidA (lent_any w2 ao n cap Ps (H.out.kept HB2.out) HN.out hm1 HX.out)
  clear hb2 HB1 HW1 h0
  obtain ⟨lo, hlo⟩ : ∃ lo, lo = looR false gl := ⟨_, rfl⟩
  have HLq := hidA hlo
  rw [← hlo] at HLo
  clear hlo
  go_wp2_with fail
  refine (HLo.out w2).mono ?_
  rintro e w2' ⟨rfl, hwq⟩
  have hwq' := hwq.symm
  subst hwq'
  clear hwq
  go_wp2_with fail
  refine HL2.out.mono ?_
  intro e w3 hp
  obtain ⟨la, lc, rfl, hb3, Ls, hl, hln, hlc, ho1, ho2⟩ := hp.giv (H.out.kept HB2.out) HN.out
  have HB3 : Hid (Go.RowKit.Below w.heap.size w w3) := HB2.out.trans (hb3.mono HB2.out.size)
  have HL3 := hidA (HLi.out w3 HB3.out la lc Ls hl hln hlc)
  rw [ho1, ho2] at HL3
  clear hb3 hp hl hln hlc ho1 ho2 HL2 HB2 HLi HLo
  obtain ⟨sx, hsx⟩ : ∃ sx, sx = S (outT Ps) := ⟨_, rfl⟩
  have HSx := hidA hsx
  rw [← hsx] at HL3
  clear hsx
  go_wp2_with fail
  refine HL3.out.mono ?_
  rintro e w4 ⟨rfl, hb4⟩
  have HB4 : Hid (Go.RowKit.Below w.heap.size w w4) := HB3.out.trans (hb4.mono HB3.out.size)
  clear hb4 HB3 HL3 HX
  cases lo with
  | false =>
    clear HAs
    go_wp2_with fail
    go_ret
    exact ⟨rfl, HB4.out⟩
  | true =>
    by_cases hE : outE Ps = 0
    case neg =>
      have hE' : (outE Ps != 0) = true := by simpa using hE
      generalize outE Ps = oe at *
      clear HAs hE
      go_wp2_with (first
        | (go_at_call 17; refine (numL_any w4 oe).mono ?_; rintro e w5 ⟨rfl, hwq⟩; have hwq' := hwq.symm; subst hwq'; clear hwq)
        | fail)
      go_ret
      exact ⟨rfl, HB4.out⟩
    case pos =>
      obtain ⟨hck, hll, hoT⟩ : (checkN Ps).2 = 0 ∧ (listT Ps).length ≤ 65536 ∧ outT Ps = listT Ps := by
        cases out_cases Ps with
        | bad hc h1 h2 => rw [h2] at hE; exact absurd hE hc
        | long hc h1 h2 => rw [h2] at hE; cases hE
        | good hc hl h1 h2 => exact ⟨hc, hl, h1⟩
      rw [hE]
      clear hE
      by_cases hbl : isBl b
      case neg =>
        have q1 : (bn != 32) = true := by
          rw [HBn.out]
          simp only [bne_iff_ne, ne_eq]
          intro e
          exact hbl (.inl (u8_int (n := 32) (by omega) e))
        have q2 : (bn != 9) = true := by
          rw [HBn.out]
          simp only [bne_iff_ne, ne_eq]
          intro e
          exact hbl (.inr (.inl (u8_int (n := 9) (by omega) e)))
        have q3 : (bn != 13) = true := by
          rw [HBn.out]
          simp only [bne_iff_ne, ne_eq]
          intro e
          exact hbl (.inr (.inr (u8_int (n := 13) (by omega) e)))
        clear HAs hbl hck hll hoT
        go_wp2_with (first
          | (go_at_call 17; refine (numL_any w4 0).mono ?_; rintro e w5 ⟨rfl, hwq⟩; have hwq' := hwq.symm; subst hwq'; clear hwq)
          | fail)
        go_ret
        exact ⟨rfl, HB4.out⟩
      case pos =>
        have hq : (bn != 32) = false ∨ ((bn != 32) = true ∧ (bn != 9) = false) ∨ ((bn != 32) = true ∧ (bn != 9) = true ∧ (bn != 13) = false) := by
          rw [HBn.out]
          rcases hbl with rfl | rfl | rfl
          · exact .inl rfl
          · exact .inr (.inl ⟨rfl, rfl⟩)
          · exact .inr (.inr ⟨rfl, rfl, rfl⟩)
        have HAs' : Hid (∀ W', Go.RowKit.Below w.heap.size w W' → Calls Tryz.prog 8 #[.string (S (gl ++ losL gl b (listT Ps)))] W' fun e w' => LsPost W' Ps (gl ++ losL gl b (listT Ps)) e w') := fun W' hb => HAs.out W' hb hck HLq.out.symm hbl
        rw [hoT] at HSx
        clear hck hoT HAs HLq hbl
        generalize listT Ps = tl at *
        have HSz : Hid (sx.size = tl.length) := by rw [Hid, HSx.out, S_size]
        have HCh : Hid (∀ k, chs sx k = ((tl.getD k 0).toNat : Int)) := fun k => by unfold chs; rw [HSx.out, S_data]
        have hszg : gx.size = gl.length := by rw [HGx.out, S_size]
        obtain ⟨v0, w6, c0, hcv, ho0, hb6⟩ := conv_own w4 gx (by omega)
        rw [HGx.out, nb_S] at ho0
        have hl0 : LO w4 w6 v0 (gl ++ losL gl b (tl.take 0)) w4.heap.size c0 := ⟨by rw [List.take_zero]; simpa [losL] using ho0, hb6⟩
        have hv0 := hl0.eq
        subst hv0
        have hl0' : (gl ++ losL gl b (tl.take 0)).length = gl.length := by simp [losL]
        rw [hl0'] at hcv hl0
        have HL0 := hidA hl0
        clear hl0 hl0' ho0 hb6
        have HGn : Hid (gl.length ≤ 1048576) := hgl
        have HTl : Hid (tl.length ≤ 65536) := hll
        have HGz : Hid (gx.size ≤ 1048576) := by rw [Hid, hszg]; exact hgl
        clear hgl hll hszg
        generalize gl.length = gn at hcv HL0 ⊢
        rcases hq with q1 | ⟨q1, q2⟩ | ⟨q1, q2, q3⟩
        all_goals
          go_wp2_with (first
            | (go_at_call 17; refine (numL_any w4 0).mono ?_; rintro e w5 ⟨rfl, hwq⟩; have hwq' := hwq.symm; subst hwq'; clear hwq)
            | fail)
          clear hcv
          have hsz65 : sx.size ≤ 65536 := by have := HSz.out; have := HTl.out; omega
          go_loopw [10, 11] (fun v y wr => ∃ (k l g c : Nat), k ≤ sx.size ∧ v = .slice (some ⟨g, 0, none⟩) l c ∧ y = .int .i64 (k : Int) ∧ Hid (LO w4 wr (.slice (some ⟨g, 0, none⟩) l c) (gl ++ losL gl b (tl.take k)) g c)) (fun _ y _ => sx.size - (intOf y).toNat)
          case atStart => exact ⟨0, _, _, _, Nat.zero_le _, rfl, rfl, HL0⟩
          case round =>
            clear HL0
            obtain ⟨k, l, g, c, hk, rfl, rfl, HO⟩ := hrel
            by_cases hlt : k < sx.size
            · have HC := chs_at sx k hlt
              have hkl : k < tl.length := by have := HSz.out; omega
              have HT : Hid (gl ++ losL gl b (tl.take (k + 1)) = (gl ++ losL gl b (tl.take k)) ++ losB gl b (tl.getD k 0)) := by rw [Hid, losL_take gl b hkl, List.append_assoc]
              have hXl : (gl ++ losL gl b (tl.take k)).length ≤ 70000000000 := by
                have h1 := losL_len gl b (tl.take k)
                have h2 : (tl.take k).length ≤ 65536 := by rw [List.length_take]; have := HTl.out; omega
                have h3 := HGn.out
                have h4 : (tl.take k).length * (gl.length + 6) ≤ 65536 * 1048582 := Nat.mul_le_mul h2 (by omega)
                rw [List.length_append]
                omega
              have HCc : Hid (chs sx k = ((tl.getD k 0).toNat : Int)) := HCh.out k
              generalize tl.getD k 0 = c8 at *
              generalize chs sx k = ci at *
              obtain ⟨X, hX⟩ : ∃ X, X = gl ++ losL gl b (tl.take k) := ⟨_, rfl⟩
              rw [← hX] at HO HT hXl
              clear hX
              have HXl := hidA hXl
              clear hXl hkl
              by_cases h10 : ci = 10
              · have HL : Hid (losB gl b c8 = [b, 35, 32, 58, 255, 10] ++ gl) := by
                  have e : c8 = 10 := u8_int (n := 10) (by omega) (by rw [← HCc.out, h10]; rfl)
                  rw [Hid, e]; rfl
                subst h10
                have HS6 : Hid (∀ j u, (([b.toNat, 35, 32, 58, 255, 10] : List Nat).map b8)[j]? = some u → (wr.alloc (.cells #[.int .u8 bn, .int .u8 35, .int .u8 32, .int .u8 58, .int .u8 255, .int .u8 10] 5)).cell? ((⟨wr.heap.size, 0, none⟩ : Addr).add j) = some u) := src_of [b.toNat, 35, 32, 58, 255, 10] _ (by rw [HBn.out]; rfl) rfl
                clear HCc
                go_wp2_with (first
                  | (at_builtin; refine wpL_strC rfl _ _ rfl w4.heap.size (.slice (some ⟨g7, 0, none⟩) l7 c7) (nb (X ++ [b, 35, 32, 58, 255, 10])) g7 c7 rfl HO7.out.own gx rfl (by rw [nb_len, List.length_append]; have := HXl.out; have := HGz.out; simp only [List.length_cons, List.length_nil]; omega) HO7.out.bel.size ?_; intro v8 w8 g8 c8' ho8 hb8)
                  | (at_builtin; refine wpL_slC rfl _ _ rfl w4.heap.size (.slice (some ⟨g, 0, none⟩) l c) (nb X) g c rfl (HO.out.own.kept (bel_al _ _)) ⟨wr.heap.size, 0, none⟩ 6 6 [b.toNat, 35, 32, 58, 255, 10] rfl rfl HS6.out (by rw [nb_len]; have := HXl.out; simp only [List.length_cons, List.length_nil]; omega) (by have := HO.out.bel.size; simp only [World.size_alloc]; omega) ?_; intro v7 w7 g7 c7 ho7 hb7; have hO7 : LO w4 w7 v7 (X ++ [b, 35, 32, 58, 255, 10]) g7 c7 := ⟨by rw [nb_append]; exact ho7, (HO.out.bel.trans ((bel_al _ _).mono HO.out.bel.size)).trans hb7⟩; have hv7 := hO7.eq; obtain ⟨l7, hl7⟩ : ∃ l7, l7 = (X ++ [b, 35, 32, 58, 255, 10]).length := ⟨_, rfl⟩; rw [← hl7] at hv7; subst hv7; have HO7 := hidA hO7; clear hO7 hl7 ho7 hb7))
                have hO8 : LO w4 w8 v8 (gl ++ losL gl b (tl.take (k + 1))) g8 c8' := ⟨by rw [HT.out, HL.out, ← List.append_assoc, nb_append]; rw [HGx.out, nb_S] at ho8; exact ho8, HO7.out.bel.trans hb8⟩
                have hv8 := hO8.eq
                obtain ⟨l8, hl8⟩ : ∃ l8, l8 = (gl ++ losL gl b (tl.take (k + 1))).length := ⟨_, rfl⟩
                rw [← hl8] at hv8
                subst hv8
                have HO8 := hidA hO8
                clear hO8 hl8 ho8 hb8 HO7 HO HL HT HS6
                go_wp2_with fail
                go_roundw
                case rel => exact ⟨k + 1, l8, g8, c8', by omega, rfl, by go_num, HO8⟩
                case measure => simp [intOf]; omega
              have b10 : (ci == 10) = false := by simp [h10]
              have n10 : c8 ≠ 10 := fun e => h10 (by rw [HCc.out, e]; rfl)
              have HN10 := hidA n10
              clear h10 n10
              by_cases h32 : ci = 32
              · have HL : Hid (losB gl b c8 = [b, 32]) := by
                  have e : c8 = 32 := u8_int (n := 32) (by omega) (by rw [← HCc.out, h32]; rfl)
                  rw [Hid, e]; rfl
                subst h32
                have HS6 : Hid (∀ j u, (([b.toNat, 32] : List Nat).map b8)[j]? = some u → (wr.alloc (.cells #[.int .u8 bn, .int .u8 32] 5)).cell? ((⟨wr.heap.size, 0, none⟩ : Addr).add j) = some u) := src_of [b.toNat, 32] _ (by rw [HBn.out]; rfl) rfl
                clear HCc HN10 b10
                go_wp2_with (first
                  | (at_builtin; refine wpL_slC rfl _ _ rfl w4.heap.size (.slice (some ⟨g, 0, none⟩) l c) (nb X) g c rfl (HO.out.own.kept (bel_al _ _)) ⟨wr.heap.size, 0, none⟩ 2 2 [b.toNat, 32] rfl rfl HS6.out (by rw [nb_len]; have := HXl.out; simp only [List.length_cons, List.length_nil]; omega) (by have := HO.out.bel.size; simp only [World.size_alloc]; omega) ?_; intro v8 w8 g8 c8' ho8 hb8))
                have hO8 : LO w4 w8 v8 (gl ++ losL gl b (tl.take (k + 1))) g8 c8' := ⟨by rw [HT.out, HL.out, nb_append]; exact ho8, (HO.out.bel.trans ((bel_al _ _).mono HO.out.bel.size)).trans hb8⟩
                have hv8 := hO8.eq
                obtain ⟨l8, hl8⟩ : ∃ l8, l8 = (gl ++ losL gl b (tl.take (k + 1))).length := ⟨_, rfl⟩
                rw [← hl8] at hv8
                subst hv8
                have HO8 := hidA hO8
                clear hO8 hl8 ho8 hb8 HO HL HT HS6
                go_wp2_with fail
                go_roundw
                case rel => exact ⟨k + 1, l8, g8, c8', by omega, rfl, by go_num, HO8⟩
                case measure => simp [intOf]; omega
              have b32 : (ci == 32) = false := by simp [h32]
              have HL : Hid (losB gl b c8 = [c8]) := by
                unfold losB
                rw [Hid, if_neg HN10.out, if_neg (fun e => h32 (by rw [HCc.out, e]; rfl))]
              have HS6 : Hid (∀ j u, (([c8.toNat] : List Nat).map b8)[j]? = some u → (wr.alloc (.cells #[.int .u8 ci] 5)).cell? ((⟨wr.heap.size, 0, none⟩ : Addr).add j) = some u) := src_of [c8.toNat] _ (by rw [HCc.out]; rfl) rfl
              clear h32 HCc HN10
              go_wp2_with (first
                | (at_builtin; refine wpL_slC rfl _ _ rfl w4.heap.size (.slice (some ⟨g, 0, none⟩) l c) (nb X) g c rfl (HO.out.own.kept (bel_al _ _)) ⟨wr.heap.size, 0, none⟩ 1 1 [c8.toNat] rfl rfl HS6.out (by rw [nb_len]; have := HXl.out; simp only [List.length_cons, List.length_nil]; omega) (by have := HO.out.bel.size; simp only [World.size_alloc]; omega) ?_; intro v8 w8 g8 c8' ho8 hb8))
              have hO8 : LO w4 w8 v8 (gl ++ losL gl b (tl.take (k + 1))) g8 c8' := ⟨by rw [HT.out, HL.out, nb_append]; exact ho8, (HO.out.bel.trans ((bel_al _ _).mono HO.out.bel.size)).trans hb8⟩
              have hv8 := hO8.eq
              obtain ⟨l8, hl8⟩ : ∃ l8, l8 = (gl ++ losL gl b (tl.take (k + 1))).length := ⟨_, rfl⟩
              rw [← hl8] at hv8
              subst hv8
              have HO8 := hidA hO8
              clear hO8 hl8 ho8 hb8 HO HL HT HS6
              go_wp2_with fail
              go_roundw
              case rel => exact ⟨k + 1, l8, g8, c8', by omega, rfl, by go_num, HO8⟩
              case measure => simp [intOf]; omega
            · have hkk : k = tl.length := by have := HSz.out; omega
              have HOf : Hid (LO w4 wr (.slice (some ⟨g, 0, none⟩) l c) (gl ++ losL gl b tl) g c) := by
                have := HO.out
                rw [hkk, List.take_length] at this
                exact this
              have hl : l = (gl ++ losL gl b tl).length := by have := HOf.out.eq; injection this
              have hcv := stringC HOf.out.own (nb_lt _)
              rw [nmS_nb] at hcv
              have HBr : Hid (Go.RowKit.Below w.heap.size w wr) := HB4.out.trans (HOf.out.bel.mono HB4.out.size)
              have HAr := hidA (HAs'.out wr HBr.out)
              have HLl := hidA hl
              clear HO HOf hkk HAs' hl
              generalize gl ++ losL gl b tl = T at *
              go_wp2_with fail
              refine HAr.out.mono ?_
              rintro e w8 (⟨hT, rfl, hw8⟩ | ⟨hT, hLO⟩)
              · have hT' : (65536 : Int) < (l : Int) := by have := HLl.out; omega
                have hw8' := hw8.symm
                subst hw8'
                have heq : (binOp .eql 28 (.iface 38 (.int .i64 44)) (.iface 38 (.int .i64 44))).run Tryz.prog wr = .ok (.bool true) wr := by kernel_rfl
                clear hw8 hT HLl hcv HAr
                go_wp2_with fail
                go_ret
                exact ⟨rfl, HBr.out⟩
              · obtain ⟨go, gc, Qs, rfl, hQ, hql, hqc, hcr, hb8⟩ := hLO
                have hT' : ¬ (65536 : Int) < (l : Int) := by have := HLl.out; omega
                have HB8 : Hid (Go.RowKit.Below w.heap.size w w8) := HBr.out.trans (hb8.mono HBr.out.size)
                have HSa := hidA (sameLib_any w8 go ao n gc cap Qs Ps hQ (H.out.kept HB8.out) HN.out hm hcr)
                rw [← HN.out]
                clear hQ hql hqc hcr hb8 HAr HBr hT HLl hcv
                go_wp2_with fail
                refine HSa.out.mono ?_
                rintro e w9 ⟨rfl, hb9⟩
                have HB9 : Hid (Go.RowKit.Below w.heap.size w w9) := HB8.out.trans (hb9.mono HB8.out.size)
                clear hb9 HSa HB8
                go_wp2_with fail
                go_ret
                exact ⟨rfl, HB9.out⟩
end Go.Proofs.YtkmafpfldnapjaaGreatDoor
