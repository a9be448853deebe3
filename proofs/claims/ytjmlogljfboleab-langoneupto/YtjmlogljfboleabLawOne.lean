/-
  THE WALK OF LangOne.
-/
import Derived.Test.YtjmlogljfboleabLOMath
import Derived.Test.YtjmlogljfboleabLSameP
import Derived.Test.YtjmlogljfboleabLSameB
import Derived.Test.YtjmlogljfboleabLPut
import Derived.Test.YtjmlogljfboleabLAwake
import Derived.Test.YtjmlogljfboleabREnd
import Derived.Test.YtjmlogljfboleabRBytes
import Derived.Deep.DeepCutAuto
import Derived.Deep.RegionWith
namespace Go.Proofs.Ytjmlogljfboleab
open Go.RowKit Go.Sort

/-- what stands: the two programs in their boxes -/
structure OS (w W : World) (p : Nums) (ao : Option Addr) (n cap : Nat) (q : Nums) (aq : Option Addr) (nr cq : Nat) : Prop where
  b0 : PBox W w.heap.size p ao n cap
  b1 : PBox W (w.heap.size + 1) q aq nr cq
  bel : Below w.heap.size w W
theorem OS.below {w W W' : World} {p : Nums} {ao : Option Addr} {n cap : Nat} {q : Nums} {aq : Option Addr} {nr cq C : Nat} (h : OS w W p ao n cap q aq nr cq) (hb : Below C W W') (hC : w.heap.size + 2 ≤ C) : OS w W' p ao n cap q aq nr cq :=
  ⟨h.b0.below hb (by omega), h.b1.below hb (by omega), h.bel.trans (hb.mono (by omega))⟩
theorem OS.kept {w W W' : World} {p : Nums} {ao : Option Addr} {n cap : Nat} {q : Nums} {aq : Option Addr} {nr cq : Nat} (h : OS w W p ao n cap q aq nr cq) (hb : Below W.heap.size W W') : OS w W' p ao n cap q aq nr cq :=
  h.below hb (by have := h.b1.lt; omega)
theorem OS.reads {w W W' : World} {p : Nums} {ao : Option Addr} {n cap : Nat} {q : Nums} {aq : Option Addr} {nr cq r : Nat} (h : OS w W p ao n cap q aq nr cq) (hg : W.grownBy W' (some r)) (hr : w.heap.size + 2 ≤ r) : OS w W' p ao n cap q aq nr cq :=
  h.below (C := w.heap.size + 2) ⟨hg.os, hg.tape, hg.output, hg.size, fun k hk => hg.block k (by have := h.b1.lt; omega) (fun e => by cases e; omega)⟩ (Nat.le_refl _)
theorem written_cases (p : Nums) (L : List K) : (∃ e : Int, (e = 30 ∨ e = 31) ∧ writtenN p L = ([], e)) ∨ (writtenN p L = (progB p L, 0) ∧ limB p L.length = true ∧ opsB L = true) := by
  cases hl : limB p L.length with
  | false => exact .inl ⟨30, .inl rfl, written_lim hl⟩
  | true =>
    cases ho : opsB L with
    | false => exact .inl ⟨31, .inr rfl, written_op hl ho⟩
    | true => exact .inr ⟨written_ok hl ho, rfl, rfl⟩

theorem get_at (w : World) (r : Nat) (a : Option Addr) (c : Nat) (b : List Nat) (P : Nat) (q : Nums) (n : Nat) (L : List K) (R : List Nat) (h : IsReader w r a c b P 0) (hn : n = L.length) (hl : limB q L.length = true) (ho : opsB L = true) (hk : ∀ k ∈ L, KIn k) (hd : b.drop P = progB q L ++ R) :
    Calls Try.prog 21 #[.pointer (some ⟨r, 0, none⟩)] w fun e' w' => ∃ ao cap, e' = .returned (pv q ao n cap) ∧ KeysAt w' ao L ∧ Reads w r a c b (P + (progB q L).length) 0 w' := by
  refine (get_any w r a c b P 0 h).mono ?_
  rintro e' w' ⟨ao, cap, he, hown, hrd⟩
  rw [getP_at b P q L R hl ho hk hd] at he hown hrd
  obtain ⟨ao', cap', h1, h2, _, _⟩ := hown.slice
  cases h1
  exact ⟨ao, cap, by rw [hn]; exact he, h2, hrd⟩
/-- what stands while it is read -/
structure RS (w W : World) (p : Nums) (ao : Option Addr) (n cap : Nat) (q : Nums) (aq : Option Addr) (nr cq : Nat) (r : Nat) (a : Option Addr) (c : Nat) (B : List Nat) (P : Nat) : Prop where
  os : OS w W p ao n cap q aq nr cq
  rd : IsReader W r a c B P 0
  rl : w.heap.size + 2 ≤ r
theorem RS.kept {w W W' : World} {p : Nums} {ao : Option Addr} {n cap : Nat} {q : Nums} {aq : Option Addr} {nr cq r : Nat} {a : Option Addr} {c : Nat} {B : List Nat} {P : Nat} (h : RS w W p ao n cap q aq nr cq r a c B P) (hb : Below W.heap.size W W') : RS w W' p ao n cap q aq nr cq r a c B P := ⟨h.os.kept hb, h.rd.kept hb, h.rl⟩
theorem RS.step {w W W' : World} {p : Nums} {ao : Option Addr} {n cap : Nat} {q : Nums} {aq : Option Addr} {nr cq r : Nat} {a : Option Addr} {c : Nat} {B : List Nat} {P P' : Nat} (h : RS w W p ao n cap q aq nr cq r a c B P) (hr : Reads W r a c B P' 0 W') : RS w W' p ao n cap q aq nr cq r a c B P' := ⟨h.os.reads hr.2 h.rl, hr.1, h.rl⟩
theorem below_drew2 (W : World) : Below W.heap.size W W.drew := ⟨rfl, rfl, rfl, Nat.le_refl _, fun _ _ => rfl⟩

set_option maxRecDepth 100000 in
set_option maxHeartbeats 2000000 in
theorem one_walk (w : World) (p : Nums) (ao : Option Addr) (n cap : Nat) (L : List K) (hL : KeysAt w ao L) (hn : n = L.length) (hK : ∀ k ∈ L, KIn k)
    (q : Nums) (aq : Option Addr) (nr cq : Nat) (R : List K) (hR : KeysAt w aq R) (hnr : nr = R.length) (hKR : ∀ k ∈ R, KIn k)
    (ao2 : Option Addr) (n2 cap2 : Nat) (zs : List Nat) (h2 : BytesAt w ao2 zs) (hn2 : n2 = zs.length) (hm2 : n2 + 6300 ≤ 140737488355328) (hnil : ao2 = none → cap2 = 0) :
    Calls Try.prog 4 #[pv p ao n cap, pv q aq nr cq, .slice ao2 n2 cap2] w fun e w' => e = .returned (.bool true) ∧ Below w.heap.size w w' := by
  have HL : Hid (KeysAt w ao L) := hL
  have HN : Hid (n = L.length) := hn
  have HK : Hid (∀ k ∈ L, KIn k) := hK
  have HR : Hid (KeysAt w aq R) := hR
  have HNR : Hid (nr = R.length) := hnr
  have HKR : Hid (∀ k ∈ R, KIn k) := hKR
  have HB : Hid (BytesAt w ao2 zs) := h2
  have HN2 : Hid (n2 = zs.length) := hn2
  have HZ : Hid (ao2 = none → cap2 = 0) := hnil
  clear hL hn hK hR hnr hKR h2 hn2 hnil
  go_enter Try.func4, Try.ntmps4
  go_wp2_with fail
  refine (awake_any _).mono ?_
  rintro e w1 ⟨rfl, hb1⟩
  have HO1 : Hid (OS w w1 p ao n cap q aq nr cq) := by
    have hB : Below w.heap.size w (w.alloc (.cells #[.int .i64 p.args, .int .i64 p.reads, .int .i64 p.writes, .int .i64 p.locals, .slice ao n cap] 37)) := (Below.refl _ _).alloc (Nat.le_refl _) _
    have hq := PBox.new (w.alloc (.cells #[.int .i64 p.args, .int .i64 p.reads, .int .i64 p.writes, .int .i64 p.locals, .slice ao n cap] 37)) q aq nr cq
    rw [World.size_alloc] at hq
    exact OS.kept ⟨(PBox.new w p ao n cap).kept ((Below.refl _ _).alloc (Nat.le_refl _) _), hq, hB.alloc (by simp) _⟩ hb1
  clear hb1
  go_wp2_with fail
  refine (new_any w1).mono ?_
  rintro e W2 ⟨rfl, hw2, hb2, _⟩
  have HS1 : Hid (w.heap.size + 2 ≤ w1.heap.size) := by have := HO1.out.b1.lt; show _ ≤ _; omega
  have HO2 : Hid (OS w W2 p ao n cap q aq nr cq) := HO1.out.kept hb2
  have HW2 : Hid (IsWriter W2 w1.heap.size w1.heap.size (.slice none 0 0) []) := hw2
  clear hw2 hb2 HO1
  generalize w1.heap.size = r at *
  go_wp2_with fail
  refine (wBytes_any W2 r r _ [] zs ao2 n2 cap2 HW2.out HN2.out (HB.out.kept HO2.out.bel) HZ.out (by have := HN2.out; simp; omega) (fun a h0 h1 => ⟨by have := HB.out.lt a h0 h1; have := HS1.out; omega, by simp [Value.ownBlock]⟩)).mono ?_
  rintro e W3 ⟨rfl, v3, hw3, ht3⟩
  have HO3 : Hid (OS w W3 p ao n cap q aq nr cq) := HO2.out.below (ht3.below HW2.out) HS1.out
  have HW3 : Hid (IsWriter W3 r r v3 (uint 10 n2 ++ zs)) := hw3
  have HM : Hid ((uint 10 n2 ++ zs).length ≤ n2 + 11) := by have := uint_length 10 n2; have := HN2.out; rw [List.length_append]; show _ ≤ _; omega
  have HD : Hid (∃ M, M = uint 10 n2 ++ zs) := ⟨_, rfl⟩
  clear hw3 ht3 HO2 HW2
  obtain ⟨M, hM⟩ := HD.out
  have HMd : Hid (M = uint 10 n2 ++ zs) := hM
  rw [← hM] at HW3 HM
  clear hM HD
  go_wp2_with fail
  refine (wLen_any W3 r r v3 M HW3.out).mono ?_
  rintro e w' ⟨rfl, hx⟩; rw [hx]; clear hx w'
  obtain ⟨x0, x1, x2, x3, x4⟩ := HO3.out.b0.cells
  go_wp2_with fail
  refine (put_any W3 r r v3 M p ao n cap L HW3.out (HL.out.kept HO3.out.bel) HN.out HK.out (fun a h0 h1 => by have := HL.out.lt a h0 h1; have := HS1.out; omega) (by have := HM.out; omega)).mono ?_
  rintro e W4 ⟨rfl, v4, hw4, ht4⟩
  have HO4 : Hid (OS w W4 p ao n cap q aq nr cq) := HO3.out.below (ht4.below HW3.out) HS1.out
  have HW4 : Hid (IsWriter W4 r r v4 (M ++ (writtenN p L).1)) := hw4
  have HLn : Hid ((writtenN p L).1.length ≤ 3127) := written_length p L
  have HC1 : Hid ((∃ e : Int, (e = 30 ∨ e = 31) ∧ writtenN p L = ([], e)) ∨ (writtenN p L = (progB p L, 0) ∧ limB p L.length = true ∧ opsB L = true)) := written_cases p L
  clear hw4 ht4 HO3 HW3 x0 x1 x2 x3 x4
  generalize writtenN p L = wp at *
  go_wp2_with fail
  refine (wLen_any W4 r r v4 _ HW4.out).mono ?_
  rintro e w' ⟨rfl, hx⟩; rw [hx]; clear hx w'
  obtain ⟨l1, hl1⟩ : ∃ l1, l1 = (M ++ wp.1).length := ⟨_, rfl⟩
  have HL1 : Hid (l1 = (M ++ wp.1).length) := hl1
  rw [← hl1]
  clear hl1
  obtain ⟨x0, x1, x2, x3, x4⟩ := HO4.out.b1.cells
  go_wp2_with fail
  refine (put_any W4 r r v4 (M ++ wp.1) q aq nr cq R HW4.out (HR.out.kept HO4.out.bel) HNR.out HKR.out (fun a h0 h1 => by have := HR.out.lt a h0 h1; have := HS1.out; omega) (by have := HM.out; have := HLn.out; rw [List.length_append]; omega)).mono ?_
  rintro e W5 ⟨rfl, v5, hw5, ht5⟩
  have HO5 : Hid (OS w W5 p ao n cap q aq nr cq) := HO4.out.below (ht5.below HW4.out) HS1.out
  have HW5 : Hid (IsWriter W5 r r v5 (M ++ wp.1 ++ (writtenN q R).1)) := hw5
  have HLm : Hid ((writtenN q R).1.length ≤ 3127) := written_length q R
  have HC2 : Hid ((∃ e : Int, (e = 30 ∨ e = 31) ∧ writtenN q R = ([], e)) ∨ (writtenN q R = (progB q R, 0) ∧ limB q R.length = true ∧ opsB R = true)) := written_cases q R
  clear hw5 ht5 HO4 HW4 x0 x1 x2 x3 x4
  generalize writtenN q R = wq at *
  go_upto_region 9 with fail
  go_cut [45] (fun x wx => x = .bool false ∧ wx = W5)
  case first =>
    have HE1 : Hid (wp.2 ≠ 0 → ((l1 : Int) != (M.length : Int)) = false) := by
      rcases HC1.out with ⟨e1, _, rfl⟩ | ⟨rfl, _, _⟩
      · exact fun _ => by have := HL1.out; simp at this; simp [this]
      · exact fun h => absurd rfl h
    have HE2 : Hid (wq.2 ≠ 0 → ((l1 : Int) != ((M ++ wp.1 ++ wq.1).length : Int)) = false) := by
      rcases HC2.out with ⟨e1, _, rfl⟩ | ⟨rfl, _, _⟩
      · exact fun _ => by have := HL1.out; simp at this; simp [this]
      · exact fun h => absurd rfl h
    clear HC1 HC2 HLn HLm HM HMd
    obtain ⟨b1, e1⟩ := wp
    obtain ⟨b2, e2⟩ := wq
    simp only at HE1 HE2 HW5 ⊢
    by_cases h2 : e2 = 0
    · subst h2
      by_cases h1 : e1 = 0
      · subst h1
        go_wp2_with fail
        go_meet
        case rel => exact ⟨rfl, rfl⟩
      · have h1' : (e1 != 0) = true := by simpa using h1
        have hl := HE1.out h1
        clear h1
        go_wp2_with fail
        go_meet
        case rel => exact ⟨rfl, rfl⟩
    · have h2' : (e2 != 0) = true := by simpa using h2
      have HE3 : Hid (((l1 : Int) != ((M ++ b1 ++ b2).length : Int)) = false) := HE2.out h2
      clear h2
      by_cases h1 : e1 = 0
      · subst h1
        go_wp2_with fail
        refine (wLen_any W5 r r v5 _ HW5.out).mono ?_
        rintro e w' ⟨rfl, hx⟩; rw [hx]; clear hx w'
        have hl2 := HE3.out
        generalize ((M ++ b1 ++ b2).length : Int) = l2 at *
        go_wp2_with fail
        go_meet
        case rel => exact ⟨rfl, rfl⟩
      · have h1' : (e1 != 0) = true := by simpa using h1
        have hl := HE1.out h1
        clear h1
        go_wp2_with fail
        refine (wLen_any W5 r r v5 _ HW5.out).mono ?_
        rintro e w' ⟨rfl, hx⟩; rw [hx]; clear hx w'
        have hl2 := HE3.out
        generalize ((M ++ b1 ++ b2).length : Int) = l2 at *
        go_wp2_with fail
        go_meet
        case rel => exact ⟨rfl, rfl⟩
  obtain ⟨rfl, rfl⟩ := hcut
  clear HL1
  generalize wc = W6 at *
  obtain ⟨B, hB⟩ : ∃ B, B = M ++ wp.1 ++ wq.1 := ⟨_, rfl⟩
  have HBd : Hid (B = uint 10 n2 ++ zs ++ wp.1 ++ wq.1) := by rw [hB, HMd.out]; exact rfl
  have HBl : Hid (B.length ≤ 140737488355328) := by rw [hB]; have := HM.out; have := HLn.out; have := HLm.out; simp only [List.length_append]; show _ ≤ _; omega
  rw [← hB] at HW5
  clear hB HM HMd HLn HLm
  go_wp2_with fail
  refine (wOut_any W6 r r v5 B HW5.out HBl.out).mono ?_
  rintro e W7 ⟨rfl, hr7, hb7, _⟩
  have HO7 : Hid (OS w W7 p ao n cap q aq nr cq) := HO5.out.kept hb7
  have HY7 : Hid (BytesAt W7 (some ⟨W6.heap.size, 0, none⟩) B) := RowAt.bytes0 (R := []) (by rw [List.append_nil]; exact hr7) HW5.out.2.1.1
  clear hr7 hb7 HO5 HW5
  generalize W6.heap.size = g7 at *
  go_wp2_with fail
  refine (read_any W7 _ B.length B.length B rfl HY7.out HBl.out).mono ?_
  rintro e W8 ⟨rfl, hr8, hb8, _⟩
  have HS8 : Hid (w.heap.size + 2 ≤ W7.heap.size + 1) := by have := HO7.out.b1.lt; show _ ≤ _; omega
  have HO8 : Hid (OS w W8 p ao n cap q aq nr cq) := HO7.out.kept hb8
  have HR8 : Hid (IsReader W8 (W7.heap.size + 1) (some ⟨W7.heap.size, 0, none⟩) B.length B 0 0) := hr8
  clear hr8 hb8 HO7 HY7
  generalize (some ⟨W7.heap.size, 0, none⟩ : Option Addr) = ra at *
  generalize W7.heap.size + 1 = rr at *
  generalize B.length = rc at *
  go_wp2_with fail
  refine (rBytes_any W8 rr ra rc B 0 0 (n2 : Int) HR8.out (by omega) (by omega)).mono ?_
  rintro e W9 ⟨v9, rfl, ho9, hr9⟩
  have hrd : rdBytes B 0 0 (n2 : Int) = (zs, (uint 10 n2 ++ zs).length, 0) := by
    have := rdBytes_at B 0 zs (wp.1 ++ wq.1) (by have := HN2.out; omega) (by rw [HBd.out, ← HN2.out]; simp)
    rw [← HN2.out] at this
    simpa using this
  rw [hrd] at ho9 hr9
  obtain ⟨a9, c9, rfl, h91, _, _⟩ := ho9.slice
  obtain ⟨P, hP⟩ : ∃ P, P = (uint 10 n2 ++ zs).length := ⟨_, rfl⟩
  have HS9 : Hid (RS w W9 p ao n cap q aq nr cq rr ra rc B P) := ⟨HO8.out.reads hr9.2 HS8.out, by rw [hP]; exact hr9.1, HS8.out⟩
  have HD9 : Hid (B.drop P = wp.1 ++ wq.1) := by rw [HBd.out, hP, List.append_assoc, List.drop_left]; exact rfl
  have HY9 : Hid (BytesAt W9 a9 zs) := h91
  have HBe : Hid (B.length = P + wp.1.length + wq.1.length) := by show B.length = _; rw [HBd.out, hP]; simp only [List.length_append]
  clear hrd ho9 hr9 h91 hP HO8 HR8 HS8 HBd
  rw [← HN2.out]
  go_wp2_with fail
  refine (same_any W9 _ _ _ _ _ _ zs zs HN2.out HN2.out HY9.out (HB.out.kept HS9.out.os.bel) (by have := HN2.out; unfold maxLen; omega)).mono ?_
  rintro e WA ⟨rfl, qA, rfl⟩
  have HSA : Hid (RS w (W9.drewN qA) p ao n cap q aq nr cq rr ra rc B P) := HS9.out.kept ⟨rfl, rfl, rfl, Nat.le_refl _, fun _ _ => rfl⟩
  rw [decide_eq_true (rfl : zs = zs)]
  clear HY9 HS9
  generalize W9.drewN qA = WA at *
  go_upto_region 14 with fail
  go_cut [64] (fun x wx => x = .bool false ∧ Hid (RS w wx p ao n cap q aq nr cq rr ra rc B (P + wp.1.length)))
  case first =>
    rcases HC1.out with ⟨e1, rfl | rfl, rfl⟩ | ⟨rfl, hl1, ho1⟩
    · clear HC2 HD9 HBe HC1
      go_quiet (fail)
      go_wp2_with fail
      go_meet
      case rel => exact ⟨rfl, HSA.out.kept ⟨rfl, rfl, rfl, Nat.le_refl _, fun _ _ => rfl⟩⟩
    · clear HC2 HD9 HBe HC1
      go_quiet (fail)
      go_wp2_with fail
      go_meet
      case rel => exact ⟨rfl, HSA.out.kept ⟨rfl, rfl, rfl, Nat.le_refl _, fun _ _ => rfl⟩⟩
    · have HSZ : Hid (RS w WA.drew p ao n cap q aq nr cq rr ra rc B (P)) := HSA.out.kept (below_drew2 _)
      have HLI : Hid (limB p L.length = true ∧ opsB L = true) := ⟨hl1, ho1⟩
      have HNB : Hid (n * 16 ≤ 140737488355328) := by have := ((limB_iff p L.length).1 hl1).2.2.2.2; have := HN.out; show _ ≤ _; omega
      clear HC2 HBe HC1 hl1 ho1
      obtain ⟨x0, x1, x2, x3, x4⟩ := HSA.out.os.b0.cells
      go_region_with (first
        | (go_at_call 21; go_loud (refine (get_at _ rr ra rc B (P) p n L wq.1 HSZ.out.rd HN.out HLI.out.1 HLI.out.2 HK.out HD9.out).mono ?_; rintro e wg ⟨ga, gc, rfl, hk, hrd⟩; have HSG : Hid (RS w wg p ao n cap q aq nr cq rr ra rc B (P + (progB p L).length)) := HSZ.out.step hrd; have HKG : Hid (KeysAt wg ga L) := hk; clear hk hrd; obtain ⟨y0, y1, y2, y3, y4⟩ := HSG.out.os.b0.cells))
        | (go_at_call 20; go_loud (refine (sameProgram_eq wg p ga ao n gc cap L HKG.out (HL.out.kept HSG.out.os.bel) HN.out HNB.out).mono ?_; rintro e wh ⟨rfl, hg⟩; have HSH : Hid (RS w wh p ao n cap q aq nr cq rr ra rc B (P + (progB p L).length)) := HSG.out.kept (Grew.below hg); clear hg)))
      all_goals (go_wp2_with fail; go_meet; exact ⟨rfl, HSH⟩)
  obtain ⟨rfl, HSB⟩ := hcut
  have HDB : Hid (B.drop (P + wp.1.length) = wq.1 ++ []) := by
    show List.drop _ _ = _
    rw [← List.drop_drop, HD9.out, List.drop_left, List.append_nil]
  clear HD9 HSA HC1
  generalize wc = WB at *
  go_wp2_with fail
  go_cut [73] (fun x wx => x = .bool false ∧ Hid (RS w wx p ao n cap q aq nr cq rr ra rc B (P + wp.1.length + wq.1.length)))
  case first =>
    rcases HC2.out with ⟨e1, rfl | rfl, rfl⟩ | ⟨rfl, hl1, ho1⟩
    · clear HN HDB HBe HC2
      go_quiet (fail)
      go_wp2_with fail
      go_meet
      case rel => exact ⟨rfl, HSB.out.kept ⟨rfl, rfl, rfl, Nat.le_refl _, fun _ _ => rfl⟩⟩
    · clear HN HDB HBe HC2
      go_quiet (fail)
      go_wp2_with fail
      go_meet
      case rel => exact ⟨rfl, HSB.out.kept ⟨rfl, rfl, rfl, Nat.le_refl _, fun _ _ => rfl⟩⟩
    · have HSZ : Hid (RS w WB.drew p ao n cap q aq nr cq rr ra rc B (P + wp.1.length)) := HSB.out.kept (below_drew2 _)
      have HLI : Hid (limB q R.length = true ∧ opsB R = true) := ⟨hl1, ho1⟩
      have HNB : Hid (nr * 16 ≤ 140737488355328) := by have := ((limB_iff q R.length).1 hl1).2.2.2.2; have := HNR.out; show _ ≤ _; omega
      clear HN HBe HC2 hl1 ho1
      obtain ⟨x0, x1, x2, x3, x4⟩ := HSB.out.os.b1.cells
      go_region_with (first
        | (go_at_call 21; go_loud (refine (get_at _ rr ra rc B (P + wp.1.length) q nr R [] HSZ.out.rd HNR.out HLI.out.1 HLI.out.2 HKR.out HDB.out).mono ?_; rintro e wg ⟨ga, gc, rfl, hk, hrd⟩; have HSG : Hid (RS w wg p ao n cap q aq nr cq rr ra rc B (P + wp.1.length + (progB q R).length)) := HSZ.out.step hrd; have HKG : Hid (KeysAt wg ga R) := hk; clear hk hrd; obtain ⟨y0, y1, y2, y3, y4⟩ := HSG.out.os.b1.cells))
        | (go_at_call 20; go_loud (refine (sameProgram_eq wg q ga aq nr gc cq R HKG.out (HR.out.kept HSG.out.os.bel) HNR.out HNB.out).mono ?_; rintro e wh ⟨rfl, hg⟩; have HSH : Hid (RS w wh p ao n cap q aq nr cq rr ra rc B (P + wp.1.length + (progB q R).length)) := HSG.out.kept (Grew.below hg); clear hg)))
      all_goals (go_wp2_with fail; go_meet; exact ⟨rfl, HSH⟩)
  obtain ⟨rfl, HSC⟩ := hcut
  have HEn : Hid (rdEnd B (P + wp.1.length + wq.1.length) 0 = 0) := by
    show rdEnd _ _ _ = _
    unfold rdEnd
    rw [if_neg]
    have := HBe.out
    omega
  clear HDB HSB HC2 HBe
  generalize wc = WC at *
  go_wp2_with fail
  refine (rEnd_any WC rr ra rc B _ 0 HSC.out.rd).mono ?_
  rintro e WD ⟨rfl, qd, rfl⟩
  rw [HEn.out]
  have HBB : Hid (Below w.heap.size w (WC.drewN qd)) := HSC.out.os.bel.trans ⟨rfl, rfl, rfl, Nat.le_refl _, fun _ _ => rfl⟩
  clear HSC HEn
  go_wp2
  go_ret
  exact ⟨rfl, HBB.out⟩
end Go.Proofs.Ytjmlogljfboleab
