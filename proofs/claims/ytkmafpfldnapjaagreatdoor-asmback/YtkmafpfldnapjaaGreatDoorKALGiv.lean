import Derived.Test.YtkmafpfldnapjaaGreatDoorKALLent
import Derived.Test.YtkmafpfldnapjaaGreatDoorKALSame
import Derived.Test.YtkmafpfldnapjaaGreatDoorKALList
import Derived.Test.YtkmafpfldnapjaaGreatDoorKAAssem
import Derived.Test.YtkmafpfldnapjaaGreatDoorKAFwd
/-
  WHAT IS LENT AND LISTED; what Assemble makes of a sound library's words.
-/
namespace Go.Proofs.YtkmafpfldnapjaaGreatDoor
open Go.RowKit Go.Sort

theorem listT_coreG {Ps Qs : List Pr} (h : Ps.map core = Qs.map core) : listT Ps = listT Qs := by
  induction Ps generalizing Qs with
  | nil =>
    cases Qs with
    | nil => rfl
    | cons y Qs => simp at h
  | cons x Ps ih =>
    cases Qs with
    | nil => simp at h
    | cons y Qs =>
      simp only [List.map_cons, List.cons.injEq, core, Prod.mk.injEq] at h
      obtain ⟨⟨h1, h2, h3⟩, h4⟩ := h
      have e := ih h4
      simp only [listT, textX, linesX, nmL', h1, h2, h3, e]
theorem out_coreG {Ps Qs : List Pr} (h : Ps.map core = Qs.map core) : outT Ps = outT Qs ∧ outE Ps = outE Qs := by
  unfold outT outE
  rw [check_core h, listT_coreG h]
  exact ⟨rfl, rfl⟩
/-- what lent hands to List -/
theorem LentPost.giv {w w2 : World} {ao : Option Addr} {n : Nat} {Ps : List Pr} {e : Ending} (h : LibAt w ao Ps) (hn : n = Ps.length) (hp : LentPost w ao n Ps e w2) :
    ∃ la lc, e = .returned (.slice la n lc) ∧ Below w.heap.size w w2 ∧ ∃ Ls, LibAt w2 la Ls ∧ n = Ls.length ∧ n ≤ lc ∧ outT Ls = outT Ps ∧ outE Ls = outE Ps := by
  rcases hp with ⟨rfl, rfl, rfl⟩ | ⟨ha, Qs, rfl, hT⟩
  · have hP : Ps = [] := by
      rcases h.at_ with h | ⟨_, _, e, _⟩
      · exact h
      · cases e
    subst hP
    obtain rfl : n = 0 := hn
    exact ⟨none, 0, rfl, Below.refl _ _, [], h, rfl, Nat.le_refl _, rfl, rfl⟩
  · cases ao with
    | none => exact absurd rfl ha
    | some a =>
      have hB : Bk w2 n w.heap.size a Ps Qs := ⟨hT.row, hT.len, hT.pad, hT.cop, h.kept hT.bel, hn⟩
      obtain ⟨e1, e2⟩ := out_coreG hB.core
      exact ⟨_, _, rfl, hT.bel, _, hB.lent, by rw [List.length_take, hT.len]; omega, by omega, e1, e2⟩
theorem out_bad {Ps : List Pr} (h : (checkN Ps).2 ≠ 0) : outT Ps = [] ∧ outE Ps = (checkN Ps).2 := by
  unfold outT outE
  exact ⟨if_neg (fun e => h e.1), if_pos h⟩
theorem out_long {Ps : List Pr} (h : (checkN Ps).2 = 0) (hl : 65536 < (listT Ps).length) : outT Ps = [] ∧ outE Ps = 44 := by
  unfold outT outE
  exact ⟨if_neg (fun e => by have := e.2; omega), by rw [if_neg (by rw [h]; simp), if_neg (by omega)]⟩
theorem out_good {Ps : List Pr} (h : (checkN Ps).2 = 0) (hl : (listT Ps).length ≤ 65536) : outT Ps = listT Ps ∧ outE Ps = 0 := by
  unfold outT outE
  exact ⟨if_pos ⟨h, hl⟩, by rw [if_neg (by rw [h]; simp), if_pos hl]⟩
theorem lines_sz {ls : List (List Wd)} (hw : ∀ ws ∈ ls, ∀ y ∈ ws, y.1.length ≤ 65536) : ∀ k, k ≤ 65537 → ∀ {a : As}, linesA ls k = .ok a → AsSz a k
  | 0, _, a, h => by
    simp only [linesA, Except.ok.injEq] at h
    rw [← h]
    exact start_sz
  | k + 1, hk, a, h => by
    simp only [linesA] at h
    cases hE : linesA ls k with
    | error e => rw [hE] at h; cases h
    | ok a0 =>
      rw [hE] at h
      refine line_sz (lines_sz hw k (by omega) hE) hk (by omega) (fun y hy => ?_) h
      rw [List.getD_eq_getElem?_getD] at hy
      cases hq : ls[k]? with
      | none => rw [hq] at hy; cases hy
      | some ws => rw [hq] at hy; exact hw ws (List.mem_of_getElem? hq) y hy
theorem text_sz {l : List UInt8} (hl : l.length ≤ 65536) {a : As} (h : linesA (splitN l) (splitN l).length = .ok a) : AsSz a (splitN l).length :=
  lines_sz (fun ws hw => (split_small l hl ws hw).2) _ (by have := split_few l; omega) h
theorem name_ext {x y : ByteArray} (h : x.data.toList = y.data.toList) : x = y := by
  obtain ⟨a⟩ := x
  obtain ⟨b⟩ := y
  congr 1
  exact Array.toList_inj.1 h
theorem core_pp : ∀ {Qs Ps : List Pr}, Qs.map ppOf = Ps.map ppOf → Qs.map core = Ps.map core
  | [], [], _ => rfl
  | [], _ :: _, h => by simp at h
  | _ :: _, [], h => by simp at h
  | x :: Qs, y :: Ps, h => by
    simp only [List.map_cons, List.cons.injEq, ppOf, PP.mk.injEq] at h
    obtain ⟨⟨h1, h2, h3⟩, h4⟩ := h
    simp only [List.map_cons, core_pp h4, core, name_ext h1, h2, h3]
/-- what Assemble leaves where it has read a library -/
def LibOut (w : World) (Ps : List Pr) (e : Ending) (w' : World) : Prop := ∃ go cap Qs, e = .returned (.tuple #[.slice go Ps.length cap, .nilIface]) ∧ LibAt w' go Qs ∧ Qs.length = Ps.length ∧ Qs.length ≤ cap ∧ Qs.map core = Ps.map core ∧ Go.RowKit.Below w.heap.size w w'
theorem lib_out {w w' : World} {l : List UInt8} {e : Ending} {Ps : List Pr} (hl : l.length ≤ 65536) (h : AsmPost w l e w') (hc : (checkN Ps).2 = 0) (hk : ∀ x ∈ Ps, NIn x.p ∧ ∀ k ∈ x.L, KIn k) (ht : neW (tokN l) = neW (tokN (listT Ps))) : LibOut w Ps e w' := by
  obtain ⟨a0, q1, q2, q3⟩ := back_text hc hk ht
  rcases h with ⟨v, E, _, h2, _⟩ | ⟨M, B, line, a, Qs, vl, vn, vm, vj, W3, h1, h2, h3, h4, h5⟩
  · rw [q1] at h2; cases h2
  · have hsz := text_sz hl h1
    rw [q1] at h1
    simp only [Except.ok.injEq] at h1
    subst h1
    have hpp : Qs.map ppOf = Ps.map ppOf := by rw [← h2.eq, q3]
    have hcr := core_pp hpp
    have hlen : Qs.length = Ps.length := by have := congrArg List.length hcr; simpa using this
    rcases h5 with ⟨v, _, h6, _⟩ | ⟨v, _, _, h6, _⟩ | ⟨h6, _, _, h7⟩
    · rw [q2] at h6; cases h6
    · rw [check_core hcr] at h6; exact absurd hc h6
    · have hA := h2.below h7
      obtain ⟨lo, lc, rfl, hlc⟩ := own_slice hA.lib
      rw [hlen] at h6
      exact ⟨lo, lc, Qs, h6, hA.libAt hsz, hlen, hlc.2.1, hcr, h4⟩
theorem like_of {w : World} {a1 a2 : Option Addr} {Qs Ps : List Pr} (h1 : LibAt w a1 Qs) (h2 : LibAt w a2 Ps) (hcr : Qs.map core = Ps.map core) : ∀ i, i < Ps.length → LikeP (pd Qs i) (pd Ps i) ∧ KeysAt w (pd Qs i).ao (pd Qs i).L ∧ KeysAt w (pd Ps i).ao (pd Ps i).L ∧ (pd Ps i).n = (pd Ps i).L.length ∧ (pd Ps i).n * 16 ≤ 140737488355328 := fun i hi => by
  have hlen : Qs.length = Ps.length := by have := congrArg List.length hcr; simpa using this
  have hi' : i < Qs.length := by omega
  have k1 := h1.ok _ (pd_mem hi')
  have k2 := h2.ok _ (pd_mem hi)
  have e : core (pd Qs i) = core (pd Ps i) := by
    have := congrArg (fun l => l[i]?) hcr
    simp only [List.getElem?_map, List.getElem?_eq_getElem hi, List.getElem?_eq_getElem hi', Option.map_some, Option.some.injEq] at this
    have e1 : pd Qs i = Qs[i] := by simp [pd, List.getD_eq_getElem?_getD, List.getElem?_eq_getElem hi']
    have e2 : pd Ps i = Ps[i] := by simp [pd, List.getD_eq_getElem?_getD, List.getElem?_eq_getElem hi]
    rw [e1, e2]
    exact this
  simp only [core, Prod.mk.injEq] at e
  obtain ⟨e1, e2, e3⟩ := e
  refine ⟨⟨e1, e2, ?_, e3⟩, k1.ks, k2.ks, k2.len, by have := k2.big; omega⟩
  rw [k1.len, k2.len, e3]
/-- two libraries that are alike -/
theorem sameLib_any (w : World) (a1 a2 : Option Addr) (n c1 c2 : Nat) (Qs Ps : List Pr) (h1 : LibAt w a1 Qs) (h2 : LibAt w a2 Ps) (hn : n = Ps.length) (hm : n ≤ 140737488351232) (hcr : Qs.map core = Ps.map core) :
    Calls Tryz.prog 10 #[.slice a1 n c1, .slice a2 n c2] w fun e w' => e = .returned (.bool true) ∧ Go.RowKit.Below w.heap.size w w' := by
  have hlen : Qs.length = Ps.length := by have := congrArg List.length hcr; simpa using this
  refine (sameLib_eq w a1 a2 n c1 c2 Qs Ps h1.at_ h2.at_ hn (by omega) hm (fun i hi => like_of h1 h2 hcr i (by omega))).mono ?_
  rintro e w' ⟨rfl, q, os, rfl⟩
  exact ⟨rfl, (show Grew w (grow (w.drewN q) os) from ⟨q, os, rfl⟩).below⟩
end Go.Proofs.YtkmafpfldnapjaaGreatDoor
/-
  AsmBack: THE LAW's WALK.
-/
namespace Go.Proofs.YtkmafpfldnapjaaGreatDoor
open Go.RowKit Go.Sort

/-- what is listed: a text and a number -/
inductive OutC (Ps : List Pr) : Prop where
  | bad (h : (checkN Ps).2 ≠ 0) (h1 : outT Ps = []) (h2 : outE Ps = (checkN Ps).2)
  | long (h : (checkN Ps).2 = 0) (h1 : outT Ps = []) (h2 : outE Ps = 44)
  | good (h : (checkN Ps).2 = 0) (hl : (listT Ps).length ≤ 65536) (h1 : outT Ps = listT Ps) (h2 : outE Ps = 0)
theorem out_cases (Ps : List Pr) : OutC Ps := by
  by_cases h : (checkN Ps).2 = 0
  · by_cases hl : (listT Ps).length ≤ 65536
    · exact .good h hl (out_good h hl).1 (out_good h hl).2
    · exact .long h (out_long h (by omega)).1 (out_long h (by omega)).2
  · exact .bad h (out_bad h).1 (out_bad h).2
set_option maxRecDepth 100000 in
set_option maxHeartbeats 2000000 in
theorem lawBack (w : World) (ao : Option Addr) (n cap : Nat) (Ps : List Pr) (h : LibAt w ao Ps) (hn : n = Ps.length) (hcap : n ≤ cap) (hm : n ≤ 140737488351232) (hv : NumVars w) (hs : Vs w) (he : ErrVar w) (hB : 8 ≤ w.heap.size) :
    Calls Tryz.prog 4 #[.slice ao n cap] w fun e w' => e = .returned (.bool true) ∧ Go.RowKit.Below w.heap.size w w' := by
  have H : Hid (LibAt w ao Ps) := h
  have HN : Hid (n = Ps.length) := hn
  have HWk : Hid (∀ W', Go.RowKit.Below w.heap.size w W' → Calls Tryz.prog 13 #[] W' fun e w' => e = .returned (.bool true) ∧ Go.RowKit.Below W'.heap.size W' w') := fun W' hb => works_any W' (hv.kept hb) (hs.kept hb) (he.bel hb hB) (by have := hb.size; omega)
  have HLi : Hid (∀ W', Go.RowKit.Below w.heap.size w W' → ∀ la lc Ls, LibAt W' la Ls → n = Ls.length → n ≤ lc → Calls Tryz.prog 14 #[.slice la n lc] W' fun e w' => e = .returned (.tuple #[.string (S (outT Ls)), .int .i64 (outE Ls)]) ∧ Go.RowKit.Below W'.heap.size W' w') := fun W' hb la lc Ls h1 h2 h3 => list_any W' la n lc Ls h1 h2 h3 hm (hs.kept hb)
  have HCk : Hid (∀ W', Go.RowKit.Below w.heap.size w W' → Calls Tryz.prog 16 #[.slice ao n cap] W' fun e w' => e = .returned (.tuple #[.int .i64 ((checkN Ps).1 : Int), .int .i64 (checkN Ps).2]) ∧ Go.RowKit.Below W'.heap.size W' w') := fun W' hb => check_any W' ao n cap Ps (h.kept hb) hn hcap hm
  have HAs : Hid (∀ W', Go.RowKit.Below w.heap.size w W' → (checkN Ps).2 = 0 → (listT Ps).length ≤ 65536 → Calls Tryz.prog 8 #[.string (S (listT Ps))] W' fun e w' => LibOut W' Ps e w') := fun W' hb hc hl => (assemble_any W' (listT Ps) hl (hv.kept hb) (hs.kept hb).nm (nw_kw (hs.kept hb).nw) (he.bel hb hB) (by have := hb.size; omega)).mono fun _ _ hp => lib_out hl hp hc (fun x hx => ⟨(h.ok x hx).nin, (h.ok x hx).kin⟩) rfl
  clear h hn hv hs he hB hcap
  go_enter Tryz.func4, Tryz.ntmps4
  go_wp2_with fail
  refine (parts_any w ao n cap Ps H.out HN.out hm).mono ?_
  rintro e w1 ⟨⟨r, rfl, hr⟩, q, hw1⟩
  have HB1 : Hid (Go.RowKit.Below w.heap.size w w1) := by rw [hw1]; exact ((Grew.refl w).drewN q).below
  have HR : Hid (0 ≤ r → n ≤ 100000 ∧ ∀ x ∈ Ps, x.n ≤ 100000) := fun h0 => ⟨(hr h0).1, fun x hx => ((hr h0).2 x hx).2⟩
  clear hr hw1
  by_cases h0 : r < 0
  · go_wp2_with fail
    go_ret
    exact ⟨rfl, HB1.out⟩
  obtain ⟨hm1, hx1⟩ := HR.out (by omega)
  have HX := hidA hx1
  have HW1 := hidA (HWk.out w1 HB1.out)
  clear hx1 HR HWk
  go_wp2_with fail
  refine HW1.out.mono ?_
  rintro e w2 ⟨rfl, hb2⟩
  have HB2 : Hid (Go.RowKit.Below w.heap.size w w2) := HB1.out.trans (hb2.mono HB1.out.size)
  have HL2 := hidA (lent_any w2 ao n cap Ps (H.out.kept HB2.out) HN.out hm1 HX.out)
  clear hb2 HB1 HW1 h0
  go_wp2_with fail
  refine HL2.out.mono ?_
  intro e w3 hp
  obtain ⟨la, lc, rfl, hb3, Ls, hl, hln, hlc, ho1, ho2⟩ := hp.giv (H.out.kept HB2.out) HN.out
  have HB3 : Hid (Go.RowKit.Below w.heap.size w w3) := HB2.out.trans (hb3.mono HB2.out.size)
  have HL3 := hidA (HLi.out w3 HB3.out la lc Ls hl hln hlc)
  rw [ho1, ho2] at HL3
  clear hb3 hp hl hln hlc ho1 ho2 HL2 HB2 HLi
  go_wp2_with fail
  refine HL3.out.mono ?_
  rintro e w4 ⟨rfl, hb4⟩
  have HB4 : Hid (Go.RowKit.Below w.heap.size w w4) := HB3.out.trans (hb4.mono HB3.out.size)
  have HC4 := hidA (HCk.out w4 HB4.out)
  clear hb4 HB3 HL3 HCk
  obtain ⟨sx, hsx⟩ : ∃ sx, sx = S (outT Ps) := ⟨_, rfl⟩
  have HSx := hidA hsx
  rw [← hsx]
  clear hsx
  go_wp2_with fail
  refine HC4.out.mono ?_
  rintro e w5 ⟨rfl, hb5⟩
  have HB5 : Hid (Go.RowKit.Below w.heap.size w w5) := HB4.out.trans (hb5.mono HB4.out.size)
  clear hb5 HB4 HC4
  go_wp2_with fail
  refine (numL_any w5 (checkN Ps).2).mono ?_
  rintro e w6 ⟨rfl, hw6⟩
  have hw6' := hw6.symm
  subst hw6'
  clear hw6
  cases out_cases Ps with
  | bad hc h1 h2 =>
    have hz : (sx.toList == []) = true := by rw [HSx.out, h1, S_toList]; rfl
    have hc' : ((checkN Ps).2 != 0) = true := by simpa using hc
    rw [h2]
    generalize (checkN Ps).2 = f at *
    clear h1 h2 hc HSx HAs HX
    go_wp2_with (first
      | (go_at_call 17; refine (numL_any w5 f).mono ?_; rintro e w6 ⟨rfl, hwq⟩; have hwq' := hwq.symm; subst hwq'; clear hwq)
      | fail)
    go_ret
    exact ⟨rfl, HB5.out⟩
  | long hc h1 h2 =>
    have hz : (sx.toList == []) = true := by rw [HSx.out, h1, S_toList]; rfl
    rw [h2, hc]
    clear h1 h2 hc HSx HAs HX
    go_wp2_with (first
      | (go_at_call 17; refine (numL_any w5 44).mono ?_; rintro e w6 ⟨rfl, hwq⟩; have hwq' := hwq.symm; subst hwq'; clear hwq)
      | fail)
    go_ret
    exact ⟨rfl, HB5.out⟩
  | good hc hl h1 h2 =>
    have HA5 := hidA (HAs.out w5 HB5.out hc hl)
    rw [h2, hc]
    rw [← h1, ← HSx.out] at HA5
    have hsz : sx.size ≤ 65536 := by rw [HSx.out, S_size, h1]; exact hl
    clear h1 h2 hc HSx HAs hl HX
    go_wp2_with (first
      | (go_at_call 17; refine (numL_any w5 0).mono ?_; rintro e w6 ⟨rfl, hwq⟩; have hwq' := hwq.symm; subst hwq'; clear hwq)
      | fail)
    refine HA5.out.mono ?_
    rintro e w6 ⟨go, gc, Qs, rfl, hQ, hql, hqc, hcr, hb6⟩
    have HB6 : Hid (Go.RowKit.Below w.heap.size w w6) := HB5.out.trans (hb6.mono HB5.out.size)
    have HSa := hidA (sameLib_any w6 go ao n gc cap Qs Ps hQ (H.out.kept HB6.out) HN.out hm hcr)
    rw [← HN.out]
    clear hQ hql hqc hcr hb6 HA5 HB5
    go_wp2_with fail
    refine HSa.out.mono ?_
    rintro e w7 ⟨rfl, hb7⟩
    have HB7 : Hid (Go.RowKit.Below w.heap.size w w7) := HB6.out.trans (hb7.mono HB6.out.size)
    clear hb7 HSa HB6
    go_wp2_with fail
    go_ret
    exact ⟨rfl, HB7.out⟩
end Go.Proofs.YtkmafpfldnapjaaGreatDoor
