import Derived.Test.YtkmafpfldnapjaaGreatDoorKALLent
import Derived.Test.YtkmafpfldnapjaaGreatDoorKALSame
import Derived.Test.YtkmafpfldnapjaaGreatDoorKALList
import Derived.Test.YtkmafpfldnapjaaGreatDoorKAAssem
import Derived.Test.YtkmafpfldnapjaaGreatDoorKAFwd
import Derived.Test.YtkmafpfldnapjaaGreatDoorKLFits
import Derived.Laws.IdiomCopy
import Derived.Lib.ConvBytes
import Derived.Test.YtkmafpfldnapjaaGreatDoorKASplit
/-
  WHAT IS LENT AND LISTED; what Assemble makes of a sound library's words.
-/
namespace Go.Proofs.YtkmafpfldnapjaaGreatDoor
open Go.RowKit Go.Sort

theorem listT_coreG {Ps Qs : List Pr} (h : Ps.map core = Qs.map core) : listT Ps = listT Qs := by
  induction Ps generalizing Qs with
  | nil =>
    cases Qs with
    | nil => rfl
    | cons y Qs => simp at h
  | cons x Ps ih =>
    cases Qs with
    | nil => simp at h
    | cons y Qs =>
      simp only [List.map_cons, List.cons.injEq, core, Prod.mk.injEq] at h
      obtain ⟨⟨h1, h2, h3⟩, h4⟩ := h
      have e := ih h4
      simp only [listT, textX, linesX, nmL', h1, h2, h3, e]
theorem out_coreG {Ps Qs : List Pr} (h : Ps.map core = Qs.map core) : outT Ps = outT Qs ∧ outE Ps = outE Qs := by
  unfold outT outE
  rw [check_core h, listT_coreG h]
  exact ⟨rfl, rfl⟩
/-- what lent hands to List -/
theorem LentPost.giv {w w2 : World} {ao : Option Addr} {n : Nat} {Ps : List Pr} {e : Ending} (h : LibAt w ao Ps) (hn : n = Ps.length) (hp : LentPost w ao n Ps e w2) :
    ∃ la lc, e = .returned (.slice la n lc) ∧ Below w.heap.size w w2 ∧ ∃ Ls, LibAt w2 la Ls ∧ n = Ls.length ∧ n ≤ lc ∧ outT Ls = outT Ps ∧ outE Ls = outE Ps := by
  rcases hp with ⟨rfl, rfl, rfl⟩ | ⟨ha, Qs, rfl, hT⟩
  · have hP : Ps = [] := by
      rcases h.at_ with h | ⟨_, _, e, _⟩
      · exact h
      · cases e
    subst hP
    obtain rfl : n = 0 := hn
    exact ⟨none, 0, rfl, Below.refl _ _, [], h, rfl, Nat.le_refl _, rfl, rfl⟩
  · cases ao with
    | none => exact absurd rfl ha
    | some a =>
      have hB : Bk w2 n w.heap.size a Ps Qs := ⟨hT.row, hT.len, hT.pad, hT.cop, h.kept hT.bel, hn⟩
      obtain ⟨e1, e2⟩ := out_coreG hB.core
      exact ⟨_, _, rfl, hT.bel, _, hB.lent, by rw [List.length_take, hT.len]; omega, by omega, e1, e2⟩
theorem out_bad {Ps : List Pr} (h : (checkN Ps).2 ≠ 0) : outT Ps = [] ∧ outE Ps = (checkN Ps).2 := by
  unfold outT outE
  exact ⟨if_neg (fun e => h e.1), if_pos h⟩
theorem out_long {Ps : List Pr} (h : (checkN Ps).2 = 0) (hl : 65536 < (listT Ps).length) : outT Ps = [] ∧ outE Ps = 44 := by
  unfold outT outE
  exact ⟨if_neg (fun e => by have := e.2; omega), by rw [if_neg (by rw [h]; simp), if_neg (by omega)]⟩
theorem out_good {Ps : List Pr} (h : (checkN Ps).2 = 0) (hl : (listT Ps).length ≤ 65536) : outT Ps = listT Ps ∧ outE Ps = 0 := by
  unfold outT outE
  exact ⟨if_pos ⟨h, hl⟩, by rw [if_neg (by rw [h]; simp), if_pos hl]⟩
theorem lines_sz {ls : List (List Wd)} (hw : ∀ ws ∈ ls, ∀ y ∈ ws, y.1.length ≤ 65536) : ∀ k, k ≤ 65537 → ∀ {a : As}, linesA ls k = .ok a → AsSz a k
  | 0, _, a, h => by
    simp only [linesA, Except.ok.injEq] at h
    rw [← h]
    exact start_sz
  | k + 1, hk, a, h => by
    simp only [linesA] at h
    cases hE : linesA ls k with
    | error e => rw [hE] at h; cases h
    | ok a0 =>
      rw [hE] at h
      refine line_sz (lines_sz hw k (by omega) hE) hk (by omega) (fun y hy => ?_) h
      rw [List.getD_eq_getElem?_getD] at hy
      cases hq : ls[k]? with
      | none => rw [hq] at hy; cases hy
      | some ws => rw [hq] at hy; exact hw ws (List.mem_of_getElem? hq) y hy
theorem text_sz {l : List UInt8} (hl : l.length ≤ 65536) {a : As} (h : linesA (splitN l) (splitN l).length = .ok a) : AsSz a (splitN l).length :=
  lines_sz (fun ws hw => (split_small l hl ws hw).2) _ (by have := split_few l; omega) h
theorem name_ext {x y : ByteArray} (h : x.data.toList = y.data.toList) : x = y := by
  obtain ⟨a⟩ := x
  obtain ⟨b⟩ := y
  congr 1
  exact Array.toList_inj.1 h
theorem core_pp : ∀ {Qs Ps : List Pr}, Qs.map ppOf = Ps.map ppOf → Qs.map core = Ps.map core
  | [], [], _ => rfl
  | [], _ :: _, h => by simp at h
  | _ :: _, [], h => by simp at h
  | x :: Qs, y :: Ps, h => by
    simp only [List.map_cons, List.cons.injEq, ppOf, PP.mk.injEq] at h
    obtain ⟨⟨h1, h2, h3⟩, h4⟩ := h
    simp only [List.map_cons, core_pp h4, core, name_ext h1, h2, h3]
/-- what Assemble leaves where it has read a library -/
def LibOut (w : World) (Ps : List Pr) (e : Ending) (w' : World) : Prop := ∃ go cap Qs, e = .returned (.tuple #[.slice go Ps.length cap, .nilIface]) ∧ LibAt w' go Qs ∧ Qs.length = Ps.length ∧ Qs.length ≤ cap ∧ Qs.map core = Ps.map core ∧ Go.RowKit.Below w.heap.size w w'
theorem lib_out {w w' : World} {l : List UInt8} {e : Ending} {Ps : List Pr} (hl : l.length ≤ 65536) (h : AsmPost w l e w') (hc : (checkN Ps).2 = 0) (hk : ∀ x ∈ Ps, NIn x.p ∧ ∀ k ∈ x.L, KIn k) (ht : neW (tokN l) = neW (tokN (listT Ps))) : LibOut w Ps e w' := by
  obtain ⟨a0, q1, q2, q3⟩ := back_text hc hk ht
  rcases h with ⟨v, E, _, h2, _⟩ | ⟨M, B, line, a, Qs, vl, vn, vm, vj, W3, h1, h2, h3, h4, h5⟩
  · rw [q1] at h2; cases h2
  · have hsz := text_sz hl h1
    rw [q1] at h1
    simp only [Except.ok.injEq] at h1
    subst h1
    have hpp : Qs.map ppOf = Ps.map ppOf := by rw [← h2.eq, q3]
    have hcr := core_pp hpp
    have hlen : Qs.length = Ps.length := by have := congrArg List.length hcr; simpa using this
    rcases h5 with ⟨v, _, h6, _⟩ | ⟨v, _, _, h6, _⟩ | ⟨h6, _, _, h7⟩
    · rw [q2] at h6; cases h6
    · rw [check_core hcr] at h6; exact absurd hc h6
    · have hA := h2.below h7
      obtain ⟨lo, lc, rfl, hlc⟩ := own_slice hA.lib
      rw [hlen] at h6
      exact ⟨lo, lc, Qs, h6, hA.libAt hsz, hlen, hlc.2.1, hcr, h4⟩
theorem like_of {w : World} {a1 a2 : Option Addr} {Qs Ps : List Pr} (h1 : LibAt w a1 Qs) (h2 : LibAt w a2 Ps) (hcr : Qs.map core = Ps.map core) : ∀ i, i < Ps.length → LikeP (pd Qs i) (pd Ps i) ∧ KeysAt w (pd Qs i).ao (pd Qs i).L ∧ KeysAt w (pd Ps i).ao (pd Ps i).L ∧ (pd Ps i).n = (pd Ps i).L.length ∧ (pd Ps i).n * 16 ≤ 140737488355328 := fun i hi => by
  have hlen : Qs.length = Ps.length := by have := congrArg List.length hcr; simpa using this
  have hi' : i < Qs.length := by omega
  have k1 := h1.ok _ (pd_mem hi')
  have k2 := h2.ok _ (pd_mem hi)
  have e : core (pd Qs i) = core (pd Ps i) := by
    have := congrArg (fun l => l[i]?) hcr
    simp only [List.getElem?_map, List.getElem?_eq_getElem hi, List.getElem?_eq_getElem hi', Option.map_some, Option.some.injEq] at this
    have e1 : pd Qs i = Qs[i] := by simp [pd, List.getD_eq_getElem?_getD, List.getElem?_eq_getElem hi']
    have e2 : pd Ps i = Ps[i] := by simp [pd, List.getD_eq_getElem?_getD, List.getElem?_eq_getElem hi]
    rw [e1, e2]
    exact this
  simp only [core, Prod.mk.injEq] at e
  obtain ⟨e1, e2, e3⟩ := e
  refine ⟨⟨e1, e2, ?_, e3⟩, k1.ks, k2.ks, k2.len, by have := k2.big; omega⟩
  rw [k1.len, k2.len, e3]
/-- two libraries that are alike -/
theorem sameLib_any (w : World) (a1 a2 : Option Addr) (n c1 c2 : Nat) (Qs Ps : List Pr) (h1 : LibAt w a1 Qs) (h2 : LibAt w a2 Ps) (hn : n = Ps.length) (hm : n ≤ 140737488351232) (hcr : Qs.map core = Ps.map core) :
    Calls Tryz.prog 10 #[.slice a1 n c1, .slice a2 n c2] w fun e w' => e = .returned (.bool true) ∧ Go.RowKit.Below w.heap.size w w' := by
  have hlen : Qs.length = Ps.length := by have := congrArg List.length hcr; simpa using this
  refine (sameLib_eq w a1 a2 n c1 c2 Qs Ps h1.at_ h2.at_ hn (by omega) hm (fun i hi => like_of h1 h2 hcr i (by omega))).mono ?_
  rintro e w' ⟨rfl, q, os, rfl⟩
  exact ⟨rfl, (show Grew w (grow (w.drewN q) os) from ⟨q, os, rfl⟩).below⟩
end Go.Proofs.YtkmafpfldnapjaaGreatDoor
/-
  AsmBack: THE LAW's WALK.
-/
namespace Go.Proofs.YtkmafpfldnapjaaGreatDoor
open Go.RowKit Go.Sort

/-- what is listed: a text and a number -/
inductive OutC (Ps : List Pr) : Prop where
  | bad (h : (checkN Ps).2 ≠ 0) (h1 : outT Ps = []) (h2 : outE Ps = (checkN Ps).2)
  | long (h : (checkN Ps).2 = 0) (h1 : outT Ps = []) (h2 : outE Ps = 44)
  | good (h : (checkN Ps).2 = 0) (hl : (listT Ps).length ≤ 65536) (h1 : outT Ps = listT Ps) (h2 : outE Ps = 0)
theorem out_cases (Ps : List Pr) : OutC Ps := by
  by_cases h : (checkN Ps).2 = 0
  · by_cases hl : (listT Ps).length ≤ 65536
    · exact .good h hl (out_good h hl).1 (out_good h hl).2
    · exact .long h (out_long h (by omega)).1 (out_long h (by omega)).2
  · exact .bad h (out_bad h).1 (out_bad h).2
set_option maxRecDepth 100000 in
set_option maxHeartbeats 2000000 in
theorem lawBack (w : World) (ao : Option Addr) (n cap : Nat) (Ps : List Pr) (h : LibAt w ao Ps) (hn : n = Ps.length) (hcap : n ≤ cap) (hm : n ≤ 140737488351232) (hv : NumVars w) (hs : Vs w) (he : ErrVar w) (hB : 8 ≤ w.heap.size) :
    Calls Tryz.prog 4 #[.slice ao n cap] w fun e w' => e = .returned (.bool true) ∧ Go.RowKit.Below w.heap.size w w' := by
  have H : Hid (LibAt w ao Ps) := h
  have HN : Hid (n = Ps.length) := hn
  have HWk : Hid (∀ W', Go.RowKit.Below w.heap.size w W' → Calls Tryz.prog 13 #[] W' fun e w' => e = .returned (.bool true) ∧ Go.RowKit.Below W'.heap.size W' w') := fun W' hb => works_any W' (hv.kept hb) (hs.kept hb) (he.bel hb hB) (by have := hb.size; omega)
  have HLi : Hid (∀ W', Go.RowKit.Below w.heap.size w W' → ∀ la lc Ls, LibAt W' la Ls → n = Ls.length → n ≤ lc → Calls Tryz.prog 14 #[.slice la n lc] W' fun e w' => e = .returned (.tuple #[.string (S (outT Ls)), .int .i64 (outE Ls)]) ∧ Go.RowKit.Below W'.heap.size W' w') := fun W' hb la lc Ls h1 h2 h3 => list_any W' la n lc Ls h1 h2 h3 hm (hs.kept hb)
  have HCk : Hid (∀ W', Go.RowKit.Below w.heap.size w W' → Calls Tryz.prog 16 #[.slice ao n cap] W' fun e w' => e = .returned (.tuple #[.int .i64 ((checkN Ps).1 : Int), .int .i64 (checkN Ps).2]) ∧ Go.RowKit.Below W'.heap.size W' w') := fun W' hb => check_any W' ao n cap Ps (h.kept hb) hn hcap hm
  have HAs : Hid (∀ W', Go.RowKit.Below w.heap.size w W' → (checkN Ps).2 = 0 → (listT Ps).length ≤ 65536 → Calls Tryz.prog 8 #[.string (S (listT Ps))] W' fun e w' => LibOut W' Ps e w') := fun W' hb hc hl => (assemble_any W' (listT Ps) hl (hv.kept hb) (hs.kept hb).nm (nw_kw (hs.kept hb).nw) (he.bel hb hB) (by have := hb.size; omega)).mono fun _ _ hp => lib_out hl hp hc (fun x hx => ⟨(h.ok x hx).nin, (h.ok x hx).kin⟩) rfl
  clear h hn hv hs he hB hcap
  go_enter Tryz.func4, Tryz.ntmps4
  go_wp2_with fail
  refine (parts_any w ao n cap Ps H.out HN.out hm).mono ?_
  rintro e w1 ⟨⟨r, rfl, hr⟩, q, hw1⟩
  have HB1 : Hid (Go.RowKit.Below w.heap.size w w1) := by rw [hw1]; exact ((Grew.refl w).drewN q).below
  have HR : Hid (0 ≤ r → n ≤ 100000 ∧ ∀ x ∈ Ps, x.n ≤ 100000) := fun h0 => ⟨(hr h0).1, fun x hx => ((hr h0).2 x hx).2⟩
  clear hr hw1
  by_cases h0 : r < 0
  · go_wp2_with fail
    go_ret
    exact ⟨rfl, HB1.out⟩
  obtain ⟨hm1, hx1⟩ := HR.out (by omega)
  have HX := hidA hx1
  have HW1 := hidA (HWk.out w1 HB1.out)
  clear hx1 HR HWk
  go_wp2_with fail
  refine HW1.out.mono ?_
  rintro e w2 ⟨rfl, hb2⟩
  have HB2 : Hid (Go.RowKit.Below w.heap.size w w2) := HB1.out.trans (hb2.mono HB1.out.size)
  have HL2 := hidA (lent_any w2 ao n cap Ps (H.out.kept HB2.out) HN.out hm1 HX.out)
  clear hb2 HB1 HW1 h0
  go_wp2_with fail
  refine HL2.out.mono ?_
  intro e w3 hp
  obtain ⟨la, lc, rfl, hb3, Ls, hl, hln, hlc, ho1, ho2⟩ := hp.giv (H.out.kept HB2.out) HN.out
  have HB3 : Hid (Go.RowKit.Below w.heap.size w w3) := HB2.out.trans (hb3.mono HB2.out.size)
  have HL3 := hidA (HLi.out w3 HB3.out la lc Ls hl hln hlc)
  rw [ho1, ho2] at HL3
  clear hb3 hp hl hln hlc ho1 ho2 HL2 HB2 HLi
  go_wp2_with fail
  refine HL3.out.mono ?_
  rintro e w4 ⟨rfl, hb4⟩
  have HB4 : Hid (Go.RowKit.Below w.heap.size w w4) := HB3.out.trans (hb4.mono HB3.out.size)
  have HC4 := hidA (HCk.out w4 HB4.out)
  clear hb4 HB3 HL3 HCk
  obtain ⟨sx, hsx⟩ : ∃ sx, sx = S (outT Ps) := ⟨_, rfl⟩
  have HSx := hidA hsx
  rw [← hsx]
  clear hsx
  go_wp2_with fail
  refine HC4.out.mono ?_
  rintro e w5 ⟨rfl, hb5⟩
  have HB5 : Hid (Go.RowKit.Below w.heap.size w w5) := HB4.out.trans (hb5.mono HB4.out.size)
  clear hb5 HB4 HC4
  go_wp2_with fail
  refine (numL_any w5 (checkN Ps).2).mono ?_
  rintro e w6 ⟨rfl, hw6⟩
  have hw6' := hw6.symm
  subst hw6'
  clear hw6
  cases out_cases Ps with
  | bad hc h1 h2 =>
    have hz : (sx.toList == []) = true := by rw [HSx.out, h1, S_toList]; rfl
    have hc' : ((checkN Ps).2 != 0) = true := by simpa using hc
    rw [h2]
    generalize (checkN Ps).2 = f at *
    clear h1 h2 hc HSx HAs HX
    go_wp2_with (first
      | (go_at_call 17; refine (numL_any w5 f).mono ?_; rintro e w6 ⟨rfl, hwq⟩; have hwq' := hwq.symm; subst hwq'; clear hwq)
      | fail)
    go_ret
    exact ⟨rfl, HB5.out⟩
  | long hc h1 h2 =>
    have hz : (sx.toList == []) = true := by rw [HSx.out, h1, S_toList]; rfl
    rw [h2, hc]
    clear h1 h2 hc HSx HAs HX
    go_wp2_with (first
      | (go_at_call 17; refine (numL_any w5 44).mono ?_; rintro e w6 ⟨rfl, hwq⟩; have hwq' := hwq.symm; subst hwq'; clear hwq)
      | fail)
    go_ret
    exact ⟨rfl, HB5.out⟩
  | good hc hl h1 h2 =>
    have HA5 := hidA (HAs.out w5 HB5.out hc hl)
    rw [h2, hc]
    rw [← h1, ← HSx.out] at HA5
    have hsz : sx.size ≤ 65536 := by rw [HSx.out, S_size, h1]; exact hl
    clear h1 h2 hc HSx HAs hl HX
    go_wp2_with (first
      | (go_at_call 17; refine (numL_any w5 0).mono ?_; rintro e w6 ⟨rfl, hwq⟩; have hwq' := hwq.symm; subst hwq'; clear hwq)
      | fail)
    refine HA5.out.mono ?_
    rintro e w6 ⟨go, gc, Qs, rfl, hQ, hql, hqc, hcr, hb6⟩
    have HB6 : Hid (Go.RowKit.Below w.heap.size w w6) := HB5.out.trans (hb6.mono HB5.out.size)
    have HSa := hidA (sameLib_any w6 go ao n gc cap Qs Ps hQ (H.out.kept HB6.out) HN.out hm hcr)
    rw [← HN.out]
    clear hQ hql hqc hcr hb6 HA5 HB5
    go_wp2_with fail
    refine HSa.out.mono ?_
    rintro e w7 ⟨rfl, hb7⟩
    have HB7 : Hid (Go.RowKit.Below w.heap.size w w7) := HB6.out.trans (hb7.mono HB6.out.size)
    clear hb7 HSa HB6
    go_wp2_with fail
    go_ret
    exact ⟨rfl, HB7.out⟩
end Go.Proofs.YtkmafpfldnapjaaGreatDoor
/-
  BLANKS AND COMMENTS MEAN NOTHING: a loosened text's words.
-/
namespace Go.Proofs.YtkmafpfldnapjaaGreatDoor
open Go.RowKit Go.Sort

/-- blanks, and comments that end with their line -/
def looR : Bool → List UInt8 → Bool
  | i, [] => !i
  | i, c :: r => if c = 10 then looR false r else if c = 35 then looR true r else if i = false ∧ c ≠ 32 ∧ c ≠ 9 ∧ c ≠ 13 then false else looR i r
theorem gap_tk : ∀ (g : List UInt8) (i : Bool) (Ls : List (List (List UInt8))), looR i g = true → ∃ E, neW E = [] ∧ g.foldl tkStep ⟨Ls, [], none, i⟩ = ⟨Ls ++ E, [], none, false⟩
  | [], i, Ls, h => ⟨[], rfl, by have : i = false := by simpa [looR] using h
                                 subst this; simp⟩
  | c :: g, i, Ls, h => by
    rw [List.foldl_cons]
    unfold looR at h
    by_cases h10 : c = 10
    · rw [if_pos h10] at h
      subst h10
      obtain ⟨E, e1, e2⟩ := gap_tk g false (Ls ++ [[]]) h
      refine ⟨[] :: E, by rw [← e1]; rfl, ?_⟩
      show g.foldl tkStep ⟨Ls ++ [[]], [], none, false⟩ = _
      rw [e2]
      simp
    rw [if_neg h10] at h
    by_cases h35 : c = 35
    · rw [if_pos h35] at h
      subst h35
      obtain ⟨E, e1, e2⟩ := gap_tk g true Ls h
      exact ⟨E, e1, e2⟩
    rw [if_neg h35] at h
    by_cases hx : i = false ∧ c ≠ 32 ∧ c ≠ 9 ∧ c ≠ 13
    · rw [if_pos hx] at h; cases h
    rw [if_neg hx] at h
    have hs : tkStep ⟨Ls, [], none, i⟩ c = ⟨Ls, [], none, i⟩ := by
      unfold tkStep
      rw [if_neg h10, if_neg h35]
      by_cases hb : endB c.toNat = true
      · rw [if_pos hb]; rfl
      · rw [if_neg hb]
        cases i with
        | true => rfl
        | false =>
          exfalso
          refine hx ⟨rfl, ?_, ?_, ?_⟩ <;> (rintro rfl; exact hb (by decide))
    rw [hs]
    exact gap_tk g i Ls h
/-- a byte, loosened -/
def losB (g : List UInt8) (b c : UInt8) : List UInt8 := if c = 10 then [b, 35, 32, 58, 255, 10] ++ g else if c = 32 then [b, 32] else [c]
def losL (g : List UInt8) (b : UInt8) (l : List UInt8) : List UInt8 := l.flatMap (losB g b)
def isBl (b : UInt8) : Prop := b = 32 ∨ b = 9 ∨ b = 13
/-- two states that are alike but for lines without words -/
structure LkT (t t' : Tk) : Prop where
  lines : neW t.lines = neW t'.lines
  words : t.words = t'.words
  cur : t.cur = t'.cur
  com : t.com = false
  com' : t'.com = false
theorem LkT.endW {t t' : Tk} (h : LkT t t') : endW t = endW t' := by
  unfold Go.Proofs.YtkmafpfldnapjaaGreatDoor.endW
  rw [h.cur, h.words]
theorem tk_bl {b : UInt8} (hb : isBl b) (t : Tk) : tkStep t b = ⟨t.lines, endW t, none, t.com⟩ := by
  rcases hb with rfl | rfl | rfl <;> rfl
theorem los_step {g : List UInt8} {b : UInt8} (hg : looR false g = true) (hb : isBl b) {t t' : Tk} (h : LkT t t') {c : UInt8} (hc : c ≠ 35) : LkT (tkStep t c) ((losB g b c).foldl tkStep t') := by
  unfold losB
  by_cases h10 : c = 10
  · rw [if_pos h10]
    subst h10
    rw [List.cons_append, List.foldl_cons, tk_bl hb t', h.com']
    show LkT _ (g.foldl tkStep ⟨t'.lines ++ [endW t'], [], none, false⟩)
    obtain ⟨E, e1, e2⟩ := gap_tk g false (t'.lines ++ [endW t']) hg
    rw [e2]
    refine ⟨?_, rfl, rfl, rfl, rfl⟩
    show neW (t.lines ++ [endW t]) = neW (t'.lines ++ [endW t'] ++ E)
    rw [neW_app, neW_app, neW_app, e1, List.append_nil, h.lines, h.endW]
  rw [if_neg h10]
  by_cases h32 : c = 32
  · rw [if_pos h32]
    subst h32
    rw [List.foldl_cons, tk_bl hb t', h.com']
    exact ⟨h.lines, h.endW, rfl, h.com, rfl⟩
  rw [if_neg h32]
  rw [List.foldl_cons, List.foldl_nil]
  unfold tkStep
  rw [if_neg h10, if_neg hc, if_neg h10, if_neg hc]
  by_cases he : endB c.toNat = true
  · rw [if_pos he, if_pos he]
    exact ⟨h.lines, h.endW, rfl, h.com, h.com'⟩
  · rw [if_neg he, if_neg he, h.cur]
    cases ht : t'.cur with
    | some w => exact ⟨h.lines, h.words, rfl, h.com, h.com'⟩
    | none =>
      simp only
      rw [if_neg (by rw [h.com]; simp), if_neg (by rw [h.com']; simp)]
      exact ⟨h.lines, h.words, rfl, h.com, h.com'⟩
theorem los_run {g : List UInt8} {b : UInt8} (hg : looR false g = true) (hb : isBl b) : ∀ (l : List UInt8) {t t' : Tk}, LkT t t' → (∀ c ∈ l, c ≠ 35) → LkT (l.foldl tkStep t) ((losL g b l).foldl tkStep t')
  | [], _, _, h, _ => h
  | c :: l, t, t', h, hc => by
    have e : losL g b (c :: l) = losB g b c ++ losL g b l := by simp [losL]
    rw [List.foldl_cons, e, List.foldl_append]
    exact los_run hg hb l (los_step hg hb h (hc c List.mem_cons_self)) (fun x hx => hc x (List.mem_cons_of_mem _ hx))
theorem los_tok {g : List UInt8} {b : UInt8} (hg : looR false g = true) (hb : isBl b) (l : List UInt8) (hl : ∀ c ∈ l, c ≠ 35) : neW (tokN (g ++ losL g b l)) = neW (tokN l) := by
  unfold tokN
  rw [List.append_assoc, List.foldl_append]
  obtain ⟨E, e1, e2⟩ := gap_tk g false [] hg
  rw [show tk0 = ⟨[], [], none, false⟩ from rfl, e2, List.nil_append, List.foldl_append, List.foldl_append]
  have h0 : LkT ⟨[], [], none, false⟩ ⟨E, [], none, false⟩ := ⟨e1.symm, rfl, rfl, rfl, rfl⟩
  have h1 := los_run hg hb l h0 hl
  generalize l.foldl tkStep ⟨[], [], none, false⟩ = t at h1 ⊢
  generalize (losL g b l).foldl tkStep ⟨E, [], none, false⟩ = t' at h1 ⊢
  show neW (t'.lines ++ [endW t']) = neW (t.lines ++ [endW t])
  rw [neW_app, neW_app, h1.lines, h1.endW]
/-- a listing has no comment -/
theorem joinS_no : ∀ (ws : List (List UInt8)), (∀ w ∈ ws, okW w) → ∀ c ∈ joinS ws, c ≠ 35
  | [], _, c, hc => (by cases hc)
  | [w], h, c, hc => (okb_ne ((h w List.mem_cons_self).2 c hc)).2
  | w :: v :: r, h, c, hc => by
    rw [joinS] at hc
    rcases List.mem_append.1 hc with hc | hc
    · exact (okb_ne ((h w List.mem_cons_self).2 c hc)).2
    · rcases List.mem_cons.1 hc with rfl | hc
      · decide
      · exact joinS_no (v :: r) (fun x hx => h x (List.mem_cons_of_mem _ hx)) c hc
theorem joinL_no {M : List (List UInt8)} {T : List (List (List UInt8))} (h : LOf M T) : ∀ c ∈ joinL M, c ≠ 35 := by
  induction h with
  | nil => intro c hc; cases hc
  | @cons l ws M T h _ ih =>
    intro c hc
    have e : joinL (l :: M) = (l ++ [10]) ++ joinL M := by simp [joinL]
    rw [e] at hc
    rcases List.mem_append.1 hc with hc | hc
    · rcases List.mem_append.1 hc with hc | hc
      · rcases h.1 with rfl | rfl
        · exact joinS_no ws h.2.1 c hc
        · rcases List.mem_append.1 hc with hc | hc
          · simp only [List.mem_cons, List.not_mem_nil, or_false, or_self] at hc
            rw [hc]; decide
          · exact joinS_no ws h.2.1 c hc
      · simp only [List.mem_singleton] at hc
        rw [hc]; decide
    · exact ih c hc
theorem loose_text {Ps : List Pr} (hc : (checkN Ps).2 = 0) (hk : ∀ x ∈ Ps, NIn x.p ∧ ∀ k ∈ x.L, KIn k) {g : List UInt8} {b : UInt8} (hg : looR false g = true) (hb : isBl b) : neW (tokN (g ++ losL g b (listT Ps))) = neW (tokN (listT Ps)) := by
  refine los_tok hg hb _ ?_
  rw [listT_join]
  exact joinL_no (list_of Ps (good_of hc hk))
end Go.Proofs.YtkmafpfldnapjaaGreatDoor
/-
  append TO A ROW OF BYTES OF ONE's OWN, BY ITS CELLS: what a text's conversion leaves, too.
-/
namespace Go.Proofs.YtkmafpfldnapjaaGreatDoor
open Go.RowKit Go.Sort

structure OwnC (w : World) (base : Nat) (v : Value) (L : List Nat) (g cap : Nat) : Prop where
  eq : v = .slice (some ⟨g, 0, none⟩) L.length cap
  lo : base ≤ g
  le : L.length ≤ cap
  mx : cap ≤ maxLen
  lt : g < w.heap.size
  ok : ∀ j, j < cap → (w.cell? ⟨g, j, none⟩).isSome = true ∧ w.frozen? ⟨g, j, none⟩ = false
  at_ : ∀ j u, (L.map b8)[j]? = some u → w.cell? ⟨g, j, none⟩ = some u
theorem setCells_below {B b : Nat} (hB : B ≤ b) : ∀ (vs : List Value) (o : Nat) (w : World), Go.RowKit.Below B w (w.setCells b o vs)
  | [], _, _ => Go.RowKit.Below.refl _ _
  | _ :: r, o, _ => (below_setC _ _ hB).trans (setCells_below hB r (o + 1) _)
theorem add_at (g j : Nat) : (⟨g, 0, none⟩ : Addr).add j = ⟨g, j, none⟩ := by unfold Addr.add; split <;> simp_all
/-- stored in its room -/
theorem OwnC.room {w : World} {base : Nat} {v : Value} {L : List Nat} {g cap : Nat} (h : OwnC w base v L g cap) (zs : List Nat) (hr : L.length + zs.length ≤ cap) : OwnC (w.setCells g L.length (zs.map b8)) base (.slice (some ⟨g, 0, none⟩) (L.length + zs.length) cap) (L ++ zs) g cap := by
  refine ⟨by rw [List.length_append], h.lo, by rw [List.length_append]; exact hr, h.mx, Nat.lt_of_lt_of_le h.lt (setCells_below (Nat.zero_le g) _ _ w).size, fun j hj => ?_, fun j u hu => ?_⟩
  · refine ⟨?_, by rw [World.frozen?_setCells]; exact (h.ok j hj).2⟩
    by_cases hi : L.length ≤ j ∧ j < L.length + (zs.map b8).length
    · obtain ⟨i, rfl⟩ : ∃ i, j = L.length + i := ⟨j - L.length, by omega⟩
      rw [World.cell?_setCells_in g (zs.map b8) L.length w (fun j hj => (h.ok _ (by rw [List.length_map] at hj; omega)).1) i (by omega)]
      rfl
    · rw [World.cell?_setCells_out g (zs.map b8) L.length w _ (fun _ _ => by simp only; omega)]
      exact (h.ok j hj).1
  · rw [List.map_append] at hu
    by_cases hi : j < L.length
    · rw [World.cell?_setCells_out g (zs.map b8) L.length w _ (fun _ _ => by simp only; omega)]
      rw [List.getElem?_append_left (by rw [List.length_map]; exact hi)] at hu
      exact h.at_ j u hu
    · rw [List.getElem?_append_right (by rw [List.length_map]; omega), List.length_map] at hu
      obtain ⟨i, rfl⟩ : ∃ i, j = L.length + i := ⟨j - L.length, by omega⟩
      rw [Nat.add_sub_cancel_left] at hu
      obtain ⟨hi', e⟩ := List.getElem?_eq_some_iff.1 hu
      rw [World.cell?_setCells_in g (zs.map b8) L.length w (fun j hj => (h.ok _ (by rw [List.length_map] at hj; omega)).1) i hi', e]
/-- a new row -/
theorem OwnC.new {w : World} {base : Nat} {L : List Nat} {cap : Nat} (hb : base ≤ w.heap.size) (hl : L.length ≤ cap) (hm : cap ≤ maxLen) (arr : Array Value) (ha : arr.size = cap) (hat : ∀ (j : Nat) (u : Value), (L.map b8)[j]? = some u → arr[j]? = some u) : OwnC (w.drew.alloc (.cells arr 5)) base (.slice (some ⟨w.heap.size, 0, none⟩) L.length cap) L w.heap.size cap := by
  have hh : (w.drew.alloc (.cells arr 5)).heap[w.heap.size]? = some (.cells arr 5 (0, 0)) := heap_alloc_new _ _ rfl
  have hc : ∀ j : Nat, (w.drew.alloc (.cells arr 5)).cell? ⟨w.heap.size, j, none⟩ = arr[j]? := fun j => by
    unfold World.cell?
    rw [hh]
    rfl
  refine ⟨rfl, hb, hl, hm, (Array.getElem?_eq_some_iff.1 hh).1, fun j hj => ⟨?_, frozen_of_row _ _ j _ _ hh⟩, fun j u hu => ?_⟩
  · rw [hc, Array.getElem?_eq_getElem (by omega)]
    rfl
  · rw [hc, hat j u hu]
theorem new_below (w : World) (o : Obj) {base : Nat} (hb : base ≤ w.heap.size) : Go.RowKit.Below base w (w.drew.alloc o) := ((bel_drewN w 1).mono hb).trans ((bel_al w.drew o).mono hb)
theorem app_slC {w : World} {base : Nat} {v : Value} {L : List Nat} {g cap : Nat} (h : OwnC w base v L g cap) (ty : TypeId) (ad : Addr) (m c : Nat) (zs : List Nat) (hm : m = zs.length) (hsrc : ∀ j u, (zs.map b8)[j]? = some u → w.cell? (ad.add j) = some u) (hlen : L.length + zs.length ≤ 140737488355328) (hbase : base ≤ w.heap.size) :
    ∃ v' w' g' cap', (Builtin.append_ #[46, 46] ty #[v, .slice (some ad) m c]).run Tryz.prog w = .ok v' w' ∧ OwnC w' base v' (L ++ zs) g' cap' ∧ Go.RowKit.Below base w w' := by
  obtain ⟨i0, hi, hz0, hz1, hz2⟩ := info_parts info8
  subst hm
  rw [h.eq]
  by_cases hroom : L.length + zs.length ≤ cap
  · have hf := run_firstCells_some (P := Tryz.prog) w i0.size zs.length ad zs.length c (zs.map b8) (by rw [hz1]; simp) hsrc
    have hst := run_storeCells_cells (P := Tryz.prog) g L.length (zs.map b8) 0 w (fun j hj => (h.ok _ (by rw [List.length_map] at hj; omega)).1) (fun j hj => (h.ok _ (by rw [List.length_map] at hj; omega)).2) (oneCells zs)
    simp only [Nat.add_zero] at hst
    refine ⟨_, _, g, cap, ?_, h.room zs hroom, setCells_below h.lo _ _ w⟩
    rw [hz1] at hf
    simp [Builtin.append_, run_underlying Tryz.underlying46, sizeOf, typeInfo, hi, hz1, Builtin.lenOf, hroom, hf, Addr.add_lit, hst]
  · have hr := run_append_grow (P := Tryz.prog) w 46 ty 5 i0 (.int .u8 0) Tryz.underlying46 hi hz0 ⟨g, 0, none⟩ L.length cap (L.map b8) (by rw [hz1]; simp) (fun j u hu => by rw [add_at]; exact h.at_ j u hu) ad zs.length c (zs.map b8) (by rw [hz1]; simp) hsrc (by omega) (by omega) (by rw [hz2]; exact growslice_fits (by omega) (by omega))
    have hge := grownCap_ge w (L.length + zs.length) cap 5
    have hcm := grownCap_le_maxLen w (L.length + zs.length) cap 5 (by unfold maxLen; omega)
    rw [show L.length + zs.length = (L ++ zs).length by rw [List.length_append]] at hr hge hcm
    refine ⟨_, _, _, _, hr, OwnC.new hbase hge hcm _ ?_ ?_, new_below w _ hbase⟩
    · have hz' : (Value.int IntKind.u8 0).cells.size = 1 := rfl
      simp only [Array.size_append, List.size_toArray, size_zeroCells, hz', List.length_map, List.length_append] at hge ⊢
      omega
    · intro j u hu
      rw [List.map_append] at hu
      have hj := (List.getElem?_eq_some_iff.1 hu).1
      rw [← Array.getElem?_toList, Array.toList_append, Array.toList_append, List.getElem?_append_left hj]
      exact hu
theorem app_strC {w : World} {base : Nat} {v : Value} {L : List Nat} {g cap : Nat} (h : OwnC w base v L g cap) (ty : TypeId) (s : ByteArray) (hlen : L.length + s.size ≤ 140737488355328) (hbase : base ≤ w.heap.size) :
    ∃ v' w' g' cap', (Builtin.append_ #[46, 9] ty #[v, .string s]).run Tryz.prog w = .ok v' w' ∧ OwnC w' base v' (L ++ nmB s) g' cap' ∧ Go.RowKit.Below base w w' := by
  obtain ⟨i0, hi, hz0, hz1, hz2⟩ := info_parts info8
  have hsz := nmB_length s
  rw [h.eq]
  by_cases hroom : L.length + s.size ≤ cap
  · have hf := Lib.run_firstCells_string (P := Tryz.prog) w 1 s
    rw [strCells_nm] at hf
    have hst := run_storeCells_cells (P := Tryz.prog) g L.length ((nmB s).map b8) 0 w (fun j hj => (h.ok _ (by rw [List.length_map] at hj; omega)).1) (fun j hj => (h.ok _ (by rw [List.length_map] at hj; omega)).2) (oneCells _)
    simp only [Nat.add_zero] at hst
    have hro := h.room (nmB s) (by omega)
    rw [hsz] at hro
    refine ⟨_, _, g, cap, ?_, hro, setCells_below h.lo _ _ w⟩
    simp [Builtin.append_, run_underlying Tryz.underlying46, run_underlying Tryz.underlying9, sizeOf, typeInfo, hi, hz1, Builtin.lenOf, hroom, hf, Addr.add_lit, hst]
  · have hr := Lib.run_append_grow_string (P := Tryz.prog) w 46 9 ty 5 i0 (.int .u8 0) Tryz.underlying46 Tryz.underlying9 hi hz0 ⟨g, 0, none⟩ L.length cap (L.map b8) (by rw [hz1]; simp) (fun j u hu => by rw [add_at]; exact h.at_ j u hu) s (by omega) (by omega) (by rw [hz2]; exact growslice_fits (by omega) (by omega))
    have hge := grownCap_ge w (L.length + s.size) cap 5
    have hcm := grownCap_le_maxLen w (L.length + s.size) cap 5 (by unfold maxLen; omega)
    rw [show L.length + s.size = (L ++ nmB s).length by rw [List.length_append, hsz], strCells_nm] at hr
    rw [show L.length + s.size = (L ++ nmB s).length by rw [List.length_append, hsz]] at hge hcm
    refine ⟨_, _, _, _, hr, OwnC.new hbase hge hcm _ ?_ ?_, new_below w _ hbase⟩
    · have hz' : (Value.int IntKind.u8 0).cells.size = 1 := rfl
      simp only [Array.size_append, List.size_toArray, size_zeroCells, hz', List.length_map, List.length_append] at hge ⊢
      omega
    · intro j u hu
      rw [List.map_append] at hu
      have hj := (List.getElem?_eq_some_iff.1 hu).1
      rw [← Array.getElem?_toList, Array.toList_append, Array.toList_append, List.getElem?_append_left hj]
      exact hu
theorem wpL_slC {w : World} {ops : Array Oper} {rest : List Oper} {o : Oper} {a : Act} {Q : Exit → Act → World → Prop} (hgd : o.guard = none) (s x : Operand)
    (ho : o.op = .call { callee := .builtin .append, args := #[s, x], argTypes := #[46, 46] }) (base : Nat) (v : Value) (L : List Nat) (g cap : Nat) (hs : a.eval s = v) (hown : OwnC w base v L g cap)
    (ad : Addr) (m c : Nat) (zs : List Nat) (hx : a.eval x = .slice (some ad) m c) (hm : m = zs.length) (hsrc : ∀ j u, (zs.map b8)[j]? = some u → w.cell? (ad.add j) = some u) (hlen : L.length + zs.length ≤ 140737488355328) (hbase : base ≤ w.heap.size)
    (h : ∀ v' w' g' cap', OwnC w' base v' (L ++ zs) g' cap' → Go.RowKit.Below base w w' → wpList Tryz.prog ops Q rest (a.put o.dst v') w') : wpList Tryz.prog ops Q (o :: rest) a w := by
  obtain ⟨v', w', g', cap', hr, h2, h3⟩ := app_slC hown o.type ad m c zs hm hsrc hlen hbase
  refine wpList_plain hgd fun K hK' => ?_
  unfold Oper.wp
  simp [execOp, ho, resolve, invoke, builtin, hs, hx, hr, Result.andThen]
  exact hK' _ _ (h v' w' g' cap' h2 h3)
theorem wpL_strC {w : World} {ops : Array Oper} {rest : List Oper} {o : Oper} {a : Act} {Q : Exit → Act → World → Prop} (hgd : o.guard = none) (sl x : Operand)
    (ho : o.op = .call { callee := .builtin .append, args := #[sl, x], argTypes := #[46, 9] }) (base : Nat) (v : Value) (L : List Nat) (g cap : Nat) (hs : a.eval sl = v) (hown : OwnC w base v L g cap) (s : ByteArray) (hx : a.eval x = .string s)
    (hlen : L.length + s.size ≤ 140737488355328) (hbase : base ≤ w.heap.size)
    (h : ∀ v' w' g' cap', OwnC w' base v' (L ++ nmB s) g' cap' → Go.RowKit.Below base w w' → wpList Tryz.prog ops Q rest (a.put o.dst v') w') : wpList Tryz.prog ops Q (o :: rest) a w := by
  obtain ⟨v', w', g', cap', hr, h2, h3⟩ := app_strC hown o.type s hlen hbase
  refine wpList_plain hgd fun K hK' => ?_
  unfold Oper.wp
  simp [execOp, ho, resolve, invoke, builtin, hs, hx, hr, Result.andThen]
  exact hK' _ _ (h v' w' g' cap' h2 h3)
/-- what the conversion of a text leaves -/
theorem conv_own (w : World) (s : ByteArray) (hs : s.size ≤ 140737488355328) : ∃ v w' cap, (convert 9 46 (.string s)).run Tryz.prog w = .ok v w' ∧ OwnC w' w.heap.size v (nmB s) w.heap.size cap ∧ Go.RowKit.Below w.heap.size w w' := by
  have hr := Lib.run_convert_string_bytes (P := Tryz.prog) w 9 46 5 s Tryz.underlying9 Tryz.underlying46 Tryz.underlying5
  have hge := grownCap_ge w s.size 0 5
  have hcm := grownCap_le_maxLen w s.size 0 5 (by unfold maxLen; omega)
  have hnew := Lib.bytesWorld_at_new w 5 s
  have hsz : (Lib.bytesCells w 5 s).size = grownCap w s.size 0 5 := by
    simp only [Lib.bytesCells, Array.size_append, Array.size_map, Array.size_replicate]
    show s.size + _ = _
    omega
  refine ⟨_, _, _, hr, ⟨by rw [nmB_length], Nat.le_refl _, by rw [nmB_length]; exact hge, hcm, by rw [Lib.bytesWorld_size]; omega, fun j hj => ⟨?_, ?_⟩, fun j u hu => ?_⟩, Lib.bytesWorld_below w _ s⟩
  · simp [World.cell?, hnew, hsz, hj]
  · simp [World.frozen?, hnew, hsz]
    omega
  · have hj : j < s.size := by have := (List.getElem?_eq_some_iff.1 hu).1; rw [List.length_map, nmB_length] at this; exact this
    rw [Lib.bytesWorld_cell w _ s j hj, ← hu]
    have hj2 : j < s.data.toList.length := by rw [Array.length_toList]; exact hj
    simp only [nmB, List.map_map, List.getElem?_map, List.getElem?_eq_getElem hj2, List.getD_eq_getElem?_getD]
    rfl
end Go.Proofs.YtkmafpfldnapjaaGreatDoor
/-
  THE WALK OF loose.
-/
namespace Go.Proofs.YtkmafpfldnapjaaGreatDoor
open Go.RowKit Go.Sort

theorem loo_step {l : List UInt8} {k : Nat} (h : k < l.length) (i : Bool) : looR i (l.drop k) = (if l.getD k 0 = 10 then looR false (l.drop (k + 1)) else if l.getD k 0 = 35 then looR true (l.drop (k + 1)) else if i = false ∧ l.getD k 0 ≠ 32 ∧ l.getD k 0 ≠ 9 ∧ l.getD k 0 ≠ 13 then false else looR i (l.drop (k + 1))) := by
  rw [List.drop_eq_getElem_cons h, looR]
  simp only [List.getD_eq_getElem?_getD, List.getElem?_eq_getElem h]
  rfl
theorem u8_int {c : UInt8} {n : Nat} (hn : n < 256) (h : ((c.toNat : Nat) : Int) = (n : Int)) : c = UInt8.ofNat n := by
  apply UInt8.toNat_inj.1
  rw [UInt8.toNat_ofNat']
  have : c.toNat = n := by omega
  rw [this]
  omega
theorem u8_ne {c : UInt8} {n : Nat} (h : ((c.toNat : Nat) : Int) ≠ (n : Int)) (hn : n < 256) : c ≠ UInt8.ofNat n := by
  rintro rfl
  apply h
  rw [UInt8.toNat_ofNat']
  omega
set_option maxHeartbeats 1000000 in
theorem loose_any (w : World) (s : ByteArray) (hs : s.size ≤ 281474976710656) : Calls Tryz.prog 20 #[.string s] w fun e w' => e = .returned (.bool (looR false s.data.toList)) ∧ w' = w := by
  obtain ⟨l, hl⟩ : ∃ l, l = s.data.toList := ⟨_, rfl⟩
  have hlen : l.length = s.size := by rw [hl]; exact Array.length_toList
  have HCh : Hid (∀ k, chs s k = ((l.getD k 0).toNat : Int)) := fun k => by unfold chs; rw [hl]
  rw [← hl]
  clear hl
  have HLn := hlen
  have HL : Hid (l.length = s.size) := hlen
  clear hlen HLn
  go_enter Tryz.func20, Tryz.ntmps20
  go_wp2
  go_loop [3, 4] (fun x y => ∃ (i : Bool) (k : Nat), k ≤ s.size ∧ x = .bool i ∧ y = .int .i64 (k : Int) ∧ Hid (looR false l = looR i (l.drop k))) (fun _ y => s.size - (intOf y).toNat)
  case atStart => exact ⟨false, 0, Nat.zero_le _, rfl, rfl, rfl⟩
  case round =>
    obtain ⟨i, k, hk, rfl, rfl, HA⟩ := hrel
    by_cases hlt : k < s.size
    · have HC := chs_at s k hlt
      have hst := loo_step (show k < l.length by have := HL.out; omega) i
      have HT : Hid ((chs s k = 10 → looR false l = looR false (l.drop (k + 1))) ∧ (chs s k ≠ 10 → chs s k = 35 → looR false l = looR true (l.drop (k + 1))) ∧ (chs s k ≠ 10 → chs s k ≠ 35 → i = false → chs s k ≠ 32 → chs s k ≠ 9 → chs s k ≠ 13 → looR false l = false) ∧ (chs s k ≠ 10 → chs s k ≠ 35 → (i = true ∨ chs s k = 32 ∨ chs s k = 9 ∨ chs s k = 13) → looR false l = looR i (l.drop (k + 1)))) := by
        rw [Hid, HA.out, hst, HCh.out k]
        have e10 : ∀ n : Nat, n < 256 → (((l.getD k 0).toNat : Int) = (n : Int) ↔ l.getD k 0 = UInt8.ofNat n) := fun n hn => ⟨u8_int hn, fun h => by rw [h, UInt8.toNat_ofNat']; omega⟩
        have a10 : ((l.getD k 0).toNat : Int) = 10 ↔ l.getD k 0 = 10 := e10 10 (by omega)
        have a35 : ((l.getD k 0).toNat : Int) = 35 ↔ l.getD k 0 = 35 := e10 35 (by omega)
        have a32 : ((l.getD k 0).toNat : Int) = 32 ↔ l.getD k 0 = 32 := e10 32 (by omega)
        have a9 : ((l.getD k 0).toNat : Int) = 9 ↔ l.getD k 0 = 9 := e10 9 (by omega)
        have a13 : ((l.getD k 0).toNat : Int) = 13 ↔ l.getD k 0 = 13 := e10 13 (by omega)
        refine ⟨fun h => ?_, fun h1 h2 => ?_, fun h1 h2 h3 h4 h5 h6 => ?_, fun h1 h2 h3 => ?_⟩
        · rw [if_pos (a10.1 h)]
        · rw [if_neg (fun e => h1 (a10.2 e)), if_pos (a35.1 h2)]
        · rw [if_neg (fun e => h1 (a10.2 e)), if_neg (fun e => h2 (a35.2 e)), if_pos ⟨h3, fun e => h4 (a32.2 e), fun e => h5 (a9.2 e), fun e => h6 (a13.2 e)⟩]
        · rw [if_neg (fun e => h1 (a10.2 e)), if_neg (fun e => h2 (a35.2 e)), if_neg (fun e => ?_)]
          rcases h3 with h3 | h3 | h3 | h3
          · rw [h3] at e; cases e.1
          · exact e.2.1 (a32.1 h3)
          · exact e.2.2.1 (a9.1 h3)
          · exact e.2.2.2 (a13.1 h3)
      clear hst
      generalize chs s k = c at *
      by_cases h10 : c = 10
      · have HG := hidA (HT.out.1 h10)
        subst h10
        clear HT HA
        go_wp2
        go_round
        case rel => exact ⟨false, k + 1, by omega, rfl, by go_num, HG⟩
        case measure => simp [intOf]; omega
      by_cases h35 : c = 35
      · have HG := hidA (HT.out.2.1 h10 h35)
        subst h35
        clear HT HA h10
        go_wp2
        go_round
        case rel => exact ⟨true, k + 1, by omega, rfl, by go_num, HG⟩
        case measure => simp [intOf]; omega
      have b10 : (c == 10) = false := by simp [h10]
      have b35 : (c == 35) = false := by simp [h35]
      cases i with
      | true =>
        have HG := hidA (HT.out.2.2.2 h10 h35 (.inl rfl))
        clear HT HA h10 h35
        go_wp2
        go_round
        case rel => exact ⟨true, k + 1, by omega, rfl, by go_num, HG⟩
        case measure => simp [intOf]; omega
      | false =>
        by_cases h32 : c = 32
        · have HG := hidA (HT.out.2.2.2 h10 h35 (.inr (.inl h32)))
          subst h32
          clear HT HA h10 h35 b10 b35
          go_wp2
          go_round
          case rel => exact ⟨false, k + 1, by omega, rfl, by go_num, HG⟩
          case measure => simp [intOf]; omega
        by_cases h9 : c = 9
        · have HG := hidA (HT.out.2.2.2 h10 h35 (.inr (.inr (.inl h9))))
          subst h9
          clear HT HA h10 h35 b10 b35 h32
          go_wp2
          go_round
          case rel => exact ⟨false, k + 1, by omega, rfl, by go_num, HG⟩
          case measure => simp [intOf]; omega
        by_cases h13 : c = 13
        · have HG := hidA (HT.out.2.2.2 h10 h35 (.inr (.inr (.inr h13))))
          subst h13
          clear HT HA h10 h35 b10 b35 h32 h9
          go_wp2
          go_round
          case rel => exact ⟨false, k + 1, by omega, rfl, by go_num, HG⟩
          case measure => simp [intOf]; omega
        have HG := hidA (HT.out.2.2.1 h10 h35 rfl h32 h9 h13)
        have b32 : (c != 32) = true := by simp [h32]
        have b9 : (c != 9) = true := by simp [h9]
        have b13 : (c != 13) = true := by simp [h13]
        clear HT HA h10 h35 h32 h9 h13
        go_wp2
        go_ret
        exact ⟨by rw [HG.out]; rfl, rfl⟩
    · have HG : Hid (looR false l = !i) := by
        rw [Hid, HA.out, List.drop_eq_nil_of_le (by have := HL.out; omega)]
        rfl
      clear HA
      go_wp2
      go_ret
      exact ⟨by rw [HG.out]; rfl, rfl⟩
end Go.Proofs.YtkmafpfldnapjaaGreatDoor
