import Derived.Test.YtkmafpfldnapjaaGreatDoorKALLent
import Derived.Test.YtkmafpfldnapjaaGreatDoorKALSame
import Derived.Test.YtkmafpfldnapjaaGreatDoorKALList
import Derived.Test.YtkmafpfldnapjaaGreatDoorKAAssem
import Derived.Test.YtkmafpfldnapjaaGreatDoorKAFwd
import Derived.Test.YtkmafpfldnapjaaGreatDoorKLDec
/-
  WHAT IS LENT AND LISTED; what Assemble makes of a sound library's words.
-/
namespace Go.Proofs.YtkmafpfldnapjaaGreatDoor
open Go.RowKit Go.Sort

theorem listT_coreG {Ps Qs : List Pr} (h : Ps.map core = Qs.map core) : listT Ps = listT Qs := by
  induction Ps generalizing Qs with
  | nil =>
    cases Qs with
    | nil => rfl
    | cons y Qs => simp at h
  | cons x Ps ih =>
    cases Qs with
    | nil => simp at h
    | cons y Qs =>
      simp only [List.map_cons, List.cons.injEq, core, Prod.mk.injEq] at h
      obtain ⟨⟨h1, h2, h3⟩, h4⟩ := h
      have e := ih h4
      simp only [listT, textX, linesX, nmL', h1, h2, h3, e]
theorem out_coreG {Ps Qs : List Pr} (h : Ps.map core = Qs.map core) : outT Ps = outT Qs ∧ outE Ps = outE Qs := by
  unfold outT outE
  rw [check_core h, listT_coreG h]
  exact ⟨rfl, rfl⟩
/-- what lent hands to List -/
theorem LentPost.giv {w w2 : World} {ao : Option Addr} {n : Nat} {Ps : List Pr} {e : Ending} (h : LibAt w ao Ps) (hn : n = Ps.length) (hp : LentPost w ao n Ps e w2) :
    ∃ la lc, e = .returned (.slice la n lc) ∧ Below w.heap.size w w2 ∧ ∃ Ls, LibAt w2 la Ls ∧ n = Ls.length ∧ n ≤ lc ∧ outT Ls = outT Ps ∧ outE Ls = outE Ps := by
  rcases hp with ⟨rfl, rfl, rfl⟩ | ⟨ha, Qs, rfl, hT⟩
  · have hP : Ps = [] := by
      rcases h.at_ with h | ⟨_, _, e, _⟩
      · exact h
      · cases e
    subst hP
    obtain rfl : n = 0 := hn
    exact ⟨none, 0, rfl, Below.refl _ _, [], h, rfl, Nat.le_refl _, rfl, rfl⟩
  · cases ao with
    | none => exact absurd rfl ha
    | some a =>
      have hB : Bk w2 n w.heap.size a Ps Qs := ⟨hT.row, hT.len, hT.pad, hT.cop, h.kept hT.bel, hn⟩
      obtain ⟨e1, e2⟩ := out_coreG hB.core
      exact ⟨_, _, rfl, hT.bel, _, hB.lent, by rw [List.length_take, hT.len]; omega, by omega, e1, e2⟩
theorem out_bad {Ps : List Pr} (h : (checkN Ps).2 ≠ 0) : outT Ps = [] ∧ outE Ps = (checkN Ps).2 := by
  unfold outT outE
  exact ⟨if_neg (fun e => h e.1), if_pos h⟩
theorem out_long {Ps : List Pr} (h : (checkN Ps).2 = 0) (hl : 65536 < (listT Ps).length) : outT Ps = [] ∧ outE Ps = 44 := by
  unfold outT outE
  exact ⟨if_neg (fun e => by have := e.2; omega), by rw [if_neg (by rw [h]; simp), if_neg (by omega)]⟩
theorem out_good {Ps : List Pr} (h : (checkN Ps).2 = 0) (hl : (listT Ps).length ≤ 65536) : outT Ps = listT Ps ∧ outE Ps = 0 := by
  unfold outT outE
  exact ⟨if_pos ⟨h, hl⟩, by rw [if_neg (by rw [h]; simp), if_pos hl]⟩
theorem lines_sz {ls : List (List Wd)} (hw : ∀ ws ∈ ls, ∀ y ∈ ws, y.1.length ≤ 65536) : ∀ k, k ≤ 65537 → ∀ {a : As}, linesA ls k = .ok a → AsSz a k
  | 0, _, a, h => by
    simp only [linesA, Except.ok.injEq] at h
    rw [← h]
    exact start_sz
  | k + 1, hk, a, h => by
    simp only [linesA] at h
    cases hE : linesA ls k with
    | error e => rw [hE] at h; cases h
    | ok a0 =>
      rw [hE] at h
      refine line_sz (lines_sz hw k (by omega) hE) hk (by omega) (fun y hy => ?_) h
      rw [List.getD_eq_getElem?_getD] at hy
      cases hq : ls[k]? with
      | none => rw [hq] at hy; cases hy
      | some ws => rw [hq] at hy; exact hw ws (List.mem_of_getElem? hq) y hy
theorem text_sz {l : List UInt8} (hl : l.length ≤ 65536) {a : As} (h : linesA (splitN l) (splitN l).length = .ok a) : AsSz a (splitN l).length :=
  lines_sz (fun ws hw => (split_small l hl ws hw).2) _ (by have := split_few l; omega) h
theorem name_ext {x y : ByteArray} (h : x.data.toList = y.data.toList) : x = y := by
  obtain ⟨a⟩ := x
  obtain ⟨b⟩ := y
  congr 1
  exact Array.toList_inj.1 h
theorem core_pp : ∀ {Qs Ps : List Pr}, Qs.map ppOf = Ps.map ppOf → Qs.map core = Ps.map core
  | [], [], _ => rfl
  | [], _ :: _, h => by simp at h
  | _ :: _, [], h => by simp at h
  | x :: Qs, y :: Ps, h => by
    simp only [List.map_cons, List.cons.injEq, ppOf, PP.mk.injEq] at h
    obtain ⟨⟨h1, h2, h3⟩, h4⟩ := h
    simp only [List.map_cons, core_pp h4, core, name_ext h1, h2, h3]
/-- what Assemble leaves where it has read a library -/
def LibOut (w : World) (Ps : List Pr) (e : Ending) (w' : World) : Prop := ∃ go cap Qs, e = .returned (.tuple #[.slice go Ps.length cap, .nilIface]) ∧ LibAt w' go Qs ∧ Qs.length = Ps.length ∧ Qs.length ≤ cap ∧ Qs.map core = Ps.map core ∧ Go.RowKit.Below w.heap.size w w'
theorem lib_out {w w' : World} {l : List UInt8} {e : Ending} {Ps : List Pr} (hl : l.length ≤ 65536) (h : AsmPost w l e w') (hc : (checkN Ps).2 = 0) (hk : ∀ x ∈ Ps, NIn x.p ∧ ∀ k ∈ x.L, KIn k) (ht : neW (tokN l) = neW (tokN (listT Ps))) : LibOut w Ps e w' := by
  obtain ⟨a0, q1, q2, q3⟩ := back_text hc hk ht
  rcases h with ⟨v, E, _, h2, _⟩ | ⟨M, B, line, a, Qs, vl, vn, vm, vj, W3, h1, h2, h3, h4, h5⟩
  · rw [q1] at h2; cases h2
  · have hsz := text_sz hl h1
    rw [q1] at h1
    simp only [Except.ok.injEq] at h1
    subst h1
    have hpp : Qs.map ppOf = Ps.map ppOf := by rw [← h2.eq, q3]
    have hcr := core_pp hpp
    have hlen : Qs.length = Ps.length := by have := congrArg List.length hcr; simpa using this
    rcases h5 with ⟨v, _, h6, _⟩ | ⟨v, _, _, h6, _⟩ | ⟨h6, _, _, h7⟩
    · rw [q2] at h6; cases h6
    · rw [check_core hcr] at h6; exact absurd hc h6
    · have hA := h2.below h7
      obtain ⟨lo, lc, rfl, hlc⟩ := own_slice hA.lib
      rw [hlen] at h6
      exact ⟨lo, lc, Qs, h6, hA.libAt hsz, hlen, hlc.2.1, hcr, h4⟩
theorem like_of {w : World} {a1 a2 : Option Addr} {Qs Ps : List Pr} (h1 : LibAt w a1 Qs) (h2 : LibAt w a2 Ps) (hcr : Qs.map core = Ps.map core) : ∀ i, i < Ps.length → LikeP (pd Qs i) (pd Ps i) ∧ KeysAt w (pd Qs i).ao (pd Qs i).L ∧ KeysAt w (pd Ps i).ao (pd Ps i).L ∧ (pd Ps i).n = (pd Ps i).L.length ∧ (pd Ps i).n * 16 ≤ 140737488355328 := fun i hi => by
  have hlen : Qs.length = Ps.length := by have := congrArg List.length hcr; simpa using this
  have hi' : i < Qs.length := by omega
  have k1 := h1.ok _ (pd_mem hi')
  have k2 := h2.ok _ (pd_mem hi)
  have e : core (pd Qs i) = core (pd Ps i) := by
    have := congrArg (fun l => l[i]?) hcr
    simp only [List.getElem?_map, List.getElem?_eq_getElem hi, List.getElem?_eq_getElem hi', Option.map_some, Option.some.injEq] at this
    have e1 : pd Qs i = Qs[i] := by simp [pd, List.getD_eq_getElem?_getD, List.getElem?_eq_getElem hi']
    have e2 : pd Ps i = Ps[i] := by simp [pd, List.getD_eq_getElem?_getD, List.getElem?_eq_getElem hi]
    rw [e1, e2]
    exact this
  simp only [core, Prod.mk.injEq] at e
  obtain ⟨e1, e2, e3⟩ := e
  refine ⟨⟨e1, e2, ?_, e3⟩, k1.ks, k2.ks, k2.len, by have := k2.big; omega⟩
  rw [k1.len, k2.len, e3]
/-- two libraries that are alike -/
theorem sameLib_any (w : World) (a1 a2 : Option Addr) (n c1 c2 : Nat) (Qs Ps : List Pr) (h1 : LibAt w a1 Qs) (h2 : LibAt w a2 Ps) (hn : n = Ps.length) (hm : n ≤ 140737488351232) (hcr : Qs.map core = Ps.map core) :
    Calls Tryz.prog 10 #[.slice a1 n c1, .slice a2 n c2] w fun e w' => e = .returned (.bool true) ∧ Go.RowKit.Below w.heap.size w w' := by
  have hlen : Qs.length = Ps.length := by have := congrArg List.length hcr; simpa using this
  refine (sameLib_eq w a1 a2 n c1 c2 Qs Ps h1.at_ h2.at_ hn (by omega) hm (fun i hi => like_of h1 h2 hcr i (by omega))).mono ?_
  rintro e w' ⟨rfl, q, os, rfl⟩
  exact ⟨rfl, (show Grew w (grow (w.drewN q) os) from ⟨q, os, rfl⟩).below⟩
end Go.Proofs.YtkmafpfldnapjaaGreatDoor
/-
  AsmSound: its library's bytes; what Assemble leaves of any text.
-/
namespace Go.Proofs.YtkmafpfldnapjaaGreatDoor
open Go.RowKit Go.Sort

theorem RowAt.atS {W : World} {g : Nat} {L : List Nat} (h : RowAt W g L) (hz : ∀ z ∈ L, z < 256) : BytesAt W (some ⟨g, 0, none⟩) L :=
  ⟨hz, .inr ⟨g, 0, rfl, fun j hj => by rw [Nat.zero_add]; exact h.cell j hj⟩⟩
theorem procsB_ltS (Ps : List Pr) : ∀ z ∈ procsB Ps, z < 256 := by
  induction Ps with
  | nil => intro z hz; simp [procsB] at hz
  | cons x Ps ih =>
    intro z hz
    simp only [procsB, procB, List.mem_append] at hz
    rcases hz with ((h | h) | h) | h
    · exact uint_lt _ _ z h
    · exact nmB_lt _ z h
    · exact written_lt _ _ z h
    · exact ih z h
theorem encN_ltS (Ps : List Pr) : ∀ z ∈ encN Ps, z < 256 := by
  intro z hz
  simp only [encN, headL, List.mem_append] at hz
  rcases hz with (h | h) | h
  · simp at h; omega
  · exact uint_lt _ _ z h
  · exact procsB_ltS Ps z h
theorem encN_lengthS {Ps : List Pr} (h : (checkN Ps).2 = 0) : (encN Ps).length ≤ 300000 := by
  have h1 := procsB_length Ps (check_small h)
  have h2 := (check_name h).1
  have h3 := uint_length 10 Ps.length
  simp only [encN, headL, List.length_append, List.length_cons, List.length_nil]
  omega
/-- a sound library is encoded -/
theorem encS_any (w : World) (ao : Option Addr) (n cap : Nat) (Ps : List Pr) (h : LibAt w ao Ps) (hn : n = Ps.length) (hc : n ≤ cap) (hm : n ≤ 140737488351232) (hk : (checkN Ps).2 = 0) :
    Calls Tryz.prog 18 #[.slice ao n cap] w fun e w' => ∃ a3 l3 c3, e = .returned (.tuple #[.slice a3 l3 c3, .int .i64 0]) ∧ BytesAt w' a3 (encN Ps) ∧ l3 = (encN Ps).length ∧ Go.RowKit.Below w.heap.size w w' := by
  refine (encode_any w ao n cap Ps h hn hc hm).mono ?_
  rintro e w' ⟨hp, hb⟩
  rcases hp with ⟨h0, _⟩ | ⟨_, g, he, hr, _⟩
  · exact absurd hk h0
  · exact ⟨_, _, _, he, hr.atS (encN_ltS Ps), rfl, hb⟩
/-- its bytes are decoded to it -/
theorem decS_any (w : World) (a3 : Option Addr) (l3 c3 : Nat) (Ps : List Pr) (h : BytesAt w a3 (encN Ps)) (hl : l3 = (encN Ps).length) (hk : (checkN Ps).2 = 0) (hx : ∀ x ∈ Ps, ∀ k ∈ x.L, KIn k) :
    Calls Tryz.prog 19 #[.slice a3 l3 c3] w fun e w' => ∃ Qs a4 c4, Qs.map core = Ps.map core ∧ e = .returned (.tuple #[.slice a4 Ps.length c4, .int .i64 0, .int .i64 0]) ∧ LibAt w' a4 Qs ∧ Go.RowKit.Below w.heap.size w w' := by
  refine (decode_any w a3 l3 c3 (encN Ps) h hl (by rw [hl]; have := encN_lengthS hk; omega)).mono ?_
  rintro e w' ⟨hb, hp⟩
  obtain ⟨hA, hE⟩ := dec_at (check_name hk).1 (Sd.of hk hx)
  rcases hp with ⟨h0, _⟩ | ⟨_, Qs, a4, c4, p4, hq, hd, hcs⟩
  · exact absurd hE h0
  · rw [hA] at hq
    have hq' : Qs.map core = Ps.map core := hq
    have hl' : Qs.length = Ps.length := by simpa using congrArg List.length hq'
    rcases hcs with ⟨h0, _⟩ | ⟨_, he⟩
    · rw [check_core hq', hk] at h0; exact absurd rfl h0
    · exact ⟨Qs, a4, c4, hq', by rw [he, hl'], hd.lib.1, hb⟩
/-- a text that is too long -/
theorem assemble_long (w : World) (s : ByteArray) (h : 65536 < s.size) : Calls Tryz.prog 8 #[.string s] w fun e w' => e = .returned (.tuple #[.slice none 0 0, .iface 38 (.int .i64 44)]) ∧ w' = w := by
  have h' : (65536 : Int) < (s.size : Int) := by omega
  go_enter Tryz.func8, Tryz.ntmps8
  go_wp2_with fail
  go_ret2
  exact ⟨rfl, rfl⟩
/-- what Assemble leaves of any text -/
def SndPost (w : World) (l : List UInt8) (e : Ending) (w' : World) : Prop := Go.RowKit.Below w.heap.size w w' ∧
  ((∃ ty p, e = .returned (.tuple #[.slice none 0 0, .iface ty p])) ∨
   (l.length ≤ 65536 ∧ ∃ go cap Qs, e = .returned (.tuple #[.slice go Qs.length cap, .nilIface]) ∧ LibAt w' go Qs ∧ Qs.length ≤ cap ∧ (checkN Qs).2 = 0 ∧ Qs.length ≤ 65537))
theorem snd_any (w : World) (l : List UInt8) (hv : NumVars w) (hn : NmAt w) (hkw : KwAt w) (he : ErrVar w) (hB : 8 ≤ w.heap.size) :
    Calls Tryz.prog 8 #[.string (S l)] w fun e w' => SndPost w l e w' := by
  by_cases hl : l.length ≤ 65536
  · refine (assemble_any w l hl hv hn hkw he hB).mono ?_
    intro e w' hp
    rcases hp with ⟨v, E, h1, _, ⟨b, h3, _⟩, h4⟩ | ⟨M, B, line, a, Qs, vl, vn, vm, vj, W3, h1, h2, h3, h4, h5⟩
    · exact ⟨h4, .inl ⟨_, _, by rw [h1, h3]⟩⟩
    · have hsz := text_sz hl h1
      rcases h5 with ⟨v, h6, _, ⟨b, h7, _⟩, _⟩ | ⟨v, h6, _, _, ⟨b, h7, _⟩, _⟩ | ⟨h6, _, hc, h7⟩
      · exact ⟨h4, .inl ⟨_, _, by rw [h6, h7]⟩⟩
      · exact ⟨h4, .inl ⟨_, _, by rw [h6, h7]⟩⟩
      · have hA := h2.below h7
        obtain ⟨lo, lc, rfl, hlc⟩ := own_slice hA.lib
        refine ⟨h4, .inr ⟨hl, lo, lc, Qs, h6, hA.libAt hsz, hlc.2.1, hc, ?_⟩⟩
        have h8 : Qs.length = a.lib.length := by rw [hA.eq, List.length_map]
        have := hsz.lib
        have := hsz.top
        omega
  · refine (assemble_long w (S l) (by rw [S_size]; omega)).mono ?_
    rintro e w' ⟨rfl, rfl⟩
    exact ⟨Go.RowKit.Below.refl _ _, .inl ⟨_, _, rfl⟩⟩
end Go.Proofs.YtkmafpfldnapjaaGreatDoor
/-
  AsmBack: THE LAW's WALK.
-/
namespace Go.Proofs.YtkmafpfldnapjaaGreatDoor
open Go.RowKit Go.Sort

/-- what is listed: a text and a number -/
inductive OutC (Ps : List Pr) : Prop where
  | bad (h : (checkN Ps).2 ≠ 0) (h1 : outT Ps = []) (h2 : outE Ps = (checkN Ps).2)
  | long (h : (checkN Ps).2 = 0) (h1 : outT Ps = []) (h2 : outE Ps = 44)
  | good (h : (checkN Ps).2 = 0) (hl : (listT Ps).length ≤ 65536) (h1 : outT Ps = listT Ps) (h2 : outE Ps = 0)
theorem out_cases (Ps : List Pr) : OutC Ps := by
  by_cases h : (checkN Ps).2 = 0
  · by_cases hl : (listT Ps).length ≤ 65536
    · exact .good h hl (out_good h hl).1 (out_good h hl).2
    · exact .long h (out_long h (by omega)).1 (out_long h (by omega)).2
  · exact .bad h (out_bad h).1 (out_bad h).2
set_option maxRecDepth 100000 in
set_option maxHeartbeats 2000000 in
theorem lawBack (w : World) (ao : Option Addr) (n cap : Nat) (Ps : List Pr) (h : LibAt w ao Ps) (hn : n = Ps.length) (hcap : n ≤ cap) (hm : n ≤ 140737488351232) (hv : NumVars w) (hs : Vs w) (he : ErrVar w) (hB : 8 ≤ w.heap.size) :
    Calls Tryz.prog 4 #[.slice ao n cap] w fun e w' => e = .returned (.bool true) ∧ Go.RowKit.Below w.heap.size w w' := by
  have H : Hid (LibAt w ao Ps) := h
  have HN : Hid (n = Ps.length) := hn
  have HWk : Hid (∀ W', Go.RowKit.Below w.heap.size w W' → Calls Tryz.prog 13 #[] W' fun e w' => e = .returned (.bool true) ∧ Go.RowKit.Below W'.heap.size W' w') := fun W' hb => works_any W' (hv.kept hb) (hs.kept hb) (he.bel hb hB) (by have := hb.size; omega)
  have HLi : Hid (∀ W', Go.RowKit.Below w.heap.size w W' → ∀ la lc Ls, LibAt W' la Ls → n = Ls.length → n ≤ lc → Calls Tryz.prog 14 #[.slice la n lc] W' fun e w' => e = .returned (.tuple #[.string (S (outT Ls)), .int .i64 (outE Ls)]) ∧ Go.RowKit.Below W'.heap.size W' w') := fun W' hb la lc Ls h1 h2 h3 => list_any W' la n lc Ls h1 h2 h3 hm (hs.kept hb)
  have HCk : Hid (∀ W', Go.RowKit.Below w.heap.size w W' → Calls Tryz.prog 16 #[.slice ao n cap] W' fun e w' => e = .returned (.tuple #[.int .i64 ((checkN Ps).1 : Int), .int .i64 (checkN Ps).2]) ∧ Go.RowKit.Below W'.heap.size W' w') := fun W' hb => check_any W' ao n cap Ps (h.kept hb) hn hcap hm
  have HAs : Hid (∀ W', Go.RowKit.Below w.heap.size w W' → (checkN Ps).2 = 0 → (listT Ps).length ≤ 65536 → Calls Tryz.prog 8 #[.string (S (listT Ps))] W' fun e w' => LibOut W' Ps e w') := fun W' hb hc hl => (assemble_any W' (listT Ps) hl (hv.kept hb) (hs.kept hb).nm (nw_kw (hs.kept hb).nw) (he.bel hb hB) (by have := hb.size; omega)).mono fun _ _ hp => lib_out hl hp hc (fun x hx => ⟨(h.ok x hx).nin, (h.ok x hx).kin⟩) rfl
  clear h hn hv hs he hB hcap
  go_enter Tryz.func4, Tryz.ntmps4
  go_wp2_with fail
  refine (parts_any w ao n cap Ps H.out HN.out hm).mono ?_
  rintro e w1 ⟨⟨r, rfl, hr⟩, q, hw1⟩
  have HB1 : Hid (Go.RowKit.Below w.heap.size w w1) := by rw [hw1]; exact ((Grew.refl w).drewN q).below
  have HR : Hid (0 ≤ r → n ≤ 100000 ∧ ∀ x ∈ Ps, x.n ≤ 100000) := fun h0 => ⟨(hr h0).1, fun x hx => ((hr h0).2 x hx).2⟩
  clear hr hw1
  by_cases h0 : r < 0
  · go_wp2_with fail
    go_ret
    exact ⟨rfl, HB1.out⟩
  obtain ⟨hm1, hx1⟩ := HR.out (by omega)
  have HX := hidA hx1
  have HW1 := hidA (HWk.out w1 HB1.out)
  clear hx1 HR HWk
  go_wp2_with fail
  refine HW1.out.mono ?_
  rintro e w2 ⟨rfl, hb2⟩
  have HB2 : Hid (Go.RowKit.Below w.heap.size w w2) := HB1.out.trans (hb2.mono HB1.out.size)
  have HL2 := hidA (lent_any w2 ao n cap Ps (H.out.kept HB2.out) HN.out hm1 HX.out)
  clear hb2 HB1 HW1 h0
  go_wp2_with fail
  refine HL2.out.mono ?_
  intro e w3 hp
  obtain ⟨la, lc, rfl, hb3, Ls, hl, hln, hlc, ho1, ho2⟩ := hp.giv (H.out.kept HB2.out) HN.out
  have HB3 : Hid (Go.RowKit.Below w.heap.size w w3) := HB2.out.trans (hb3.mono HB2.out.size)
  have HL3 := hidA (HLi.out w3 HB3.out la lc Ls hl hln hlc)
  rw [ho1, ho2] at HL3
  clear hb3 hp hl hln hlc ho1 ho2 HL2 HB2 HLi
  go_wp2_with fail
  refine HL3.out.mono ?_
  rintro e w4 ⟨rfl, hb4⟩
  have HB4 : Hid (Go.RowKit.Below w.heap.size w w4) := HB3.out.trans (hb4.mono HB3.out.size)
  have HC4 := hidA (HCk.out w4 HB4.out)
  clear hb4 HB3 HL3 HCk
  obtain ⟨sx, hsx⟩ : ∃ sx, sx = S (outT Ps) := ⟨_, rfl⟩
  have HSx := hidA hsx
  rw [← hsx]
  clear hsx
  go_wp2_with fail
  refine HC4.out.mono ?_
  rintro e w5 ⟨rfl, hb5⟩
  have HB5 : Hid (Go.RowKit.Below w.heap.size w w5) := HB4.out.trans (hb5.mono HB4.out.size)
  clear hb5 HB4 HC4
  go_wp2_with fail
  refine (numL_any w5 (checkN Ps).2).mono ?_
  rintro e w6 ⟨rfl, hw6⟩
  have hw6' := hw6.symm
  subst hw6'
  clear hw6
  cases out_cases Ps with
  | bad hc h1 h2 =>
    have hz : (sx.toList == []) = true := by rw [HSx.out, h1, S_toList]; rfl
    have hc' : ((checkN Ps).2 != 0) = true := by simpa using hc
    rw [h2]
    generalize (checkN Ps).2 = f at *
    clear h1 h2 hc HSx HAs HX
    go_wp2_with (first
      | (go_at_call 17; refine (numL_any w5 f).mono ?_; rintro e w6 ⟨rfl, hwq⟩; have hwq' := hwq.symm; subst hwq'; clear hwq)
      | fail)
    go_ret
    exact ⟨rfl, HB5.out⟩
  | long hc h1 h2 =>
    have hz : (sx.toList == []) = true := by rw [HSx.out, h1, S_toList]; rfl
    rw [h2, hc]
    clear h1 h2 hc HSx HAs HX
    go_wp2_with (first
      | (go_at_call 17; refine (numL_any w5 44).mono ?_; rintro e w6 ⟨rfl, hwq⟩; have hwq' := hwq.symm; subst hwq'; clear hwq)
      | fail)
    go_ret
    exact ⟨rfl, HB5.out⟩
  | good hc hl h1 h2 =>
    have HA5 := hidA (HAs.out w5 HB5.out hc hl)
    rw [h2, hc]
    rw [← h1, ← HSx.out] at HA5
    have hsz : sx.size ≤ 65536 := by rw [HSx.out, S_size, h1]; exact hl
    clear h1 h2 hc HSx HAs hl HX
    go_wp2_with (first
      | (go_at_call 17; refine (numL_any w5 0).mono ?_; rintro e w6 ⟨rfl, hwq⟩; have hwq' := hwq.symm; subst hwq'; clear hwq)
      | fail)
    refine HA5.out.mono ?_
    rintro e w6 ⟨go, gc, Qs, rfl, hQ, hql, hqc, hcr, hb6⟩
    have HB6 : Hid (Go.RowKit.Below w.heap.size w w6) := HB5.out.trans (hb6.mono HB5.out.size)
    have HSa := hidA (sameLib_any w6 go ao n gc cap Qs Ps hQ (H.out.kept HB6.out) HN.out hm hcr)
    rw [← HN.out]
    clear hQ hql hqc hcr hb6 HA5 HB5
    go_wp2_with fail
    refine HSa.out.mono ?_
    rintro e w7 ⟨rfl, hb7⟩
    have HB7 : Hid (Go.RowKit.Below w.heap.size w w7) := HB6.out.trans (hb7.mono HB6.out.size)
    clear hb7 HSa HB6
    go_wp2_with fail
    go_ret
    exact ⟨rfl, HB7.out⟩
end Go.Proofs.YtkmafpfldnapjaaGreatDoor
/-
  AsmSound: THE LAW's WALK.
-/
namespace Go.Proofs.YtkmafpfldnapjaaGreatDoor
open Go.RowKit Go.Sort

set_option maxRecDepth 100000 in
set_option maxHeartbeats 4000000 in
theorem lawSound (w : World) (l : List UInt8) (hl : l.length ≤ 140737488351232) (hv : NumVars w) (hs : Vs w) (he : ErrVar w) (hB : 8 ≤ w.heap.size) :
    Calls Tryz.prog 5 #[.string (S l)] w fun e w' => e = .returned (.bool true) ∧ Go.RowKit.Below w.heap.size w w' := by
  have HW := hidA (works_any w hv hs he hB)
  have HAs : Hid (∀ W', Go.RowKit.Below w.heap.size w W' → Calls Tryz.prog 8 #[.string (S l)] W' fun e w' => SndPost W' l e w') := fun W' hb => snd_any W' l (hv.kept hb) (hs.kept hb).nm (nw_kw (hs.kept hb).nw) (he.bel hb hB) (by have := hb.size; omega)
  have HAg : Hid (∀ W', Go.RowKit.Below w.heap.size w W' → ∀ Ps, (checkN Ps).2 = 0 → (listT Ps).length ≤ 65536 → (∀ x ∈ Ps, NIn x.p ∧ ∀ k ∈ x.L, KIn k) → Calls Tryz.prog 8 #[.string (S (listT Ps))] W' fun e w' => LibOut W' Ps e w') := fun W' hb Ps hc hl hx => (assemble_any W' (listT Ps) hl (hv.kept hb) (hs.kept hb).nm (nw_kw (hs.kept hb).nw) (he.bel hb hB) (by have := hb.size; omega)).mono fun _ _ hp => lib_out hl hp hc hx rfl
  have HLi : Hid (∀ W', Go.RowKit.Below w.heap.size w W' → ∀ la n lc Ls, LibAt W' la Ls → n = Ls.length → n ≤ lc → n ≤ 140737488351232 → Calls Tryz.prog 14 #[.slice la n lc] W' fun e w' => e = .returned (.tuple #[.string (S (outT Ls)), .int .i64 (outE Ls)]) ∧ Go.RowKit.Below W'.heap.size W' w') := fun W' hb la n lc Ls h1 h2 h3 hm => list_any W' la n lc Ls h1 h2 h3 hm (hs.kept hb)
  have hst : (S l).size = l.length := S_size l
  clear hv hs he hB
  obtain ⟨sl, hsl⟩ : ∃ sl, sl = S l := ⟨_, rfl⟩
  rw [← hsl] at hst HAs ⊢
  clear hsl
  go_enter Tryz.func5, Tryz.ntmps5
  go_wp2_with fail
  refine HW.out.mono ?_
  rintro e w1 ⟨rfl, hb1⟩
  have HB1 := hidA hb1
  have HA1 := hidA (HAs.out w1 hb1)
  clear hb1 HW HAs
  go_wp2_with fail
  refine HA1.out.mono ?_
  rintro e w2 ⟨hb2, hc⟩
  have HB2 : Hid (Go.RowKit.Below w.heap.size w w2) := HB1.out.trans (hb2.mono HB1.out.size)
  clear hb2 HA1 HB1
  rcases hc with ⟨ty, p, rfl⟩ | ⟨hlen, go, cap, Qs, rfl, hQ, hcap, hck, hql⟩
  · go_wp2_with fail
    go_ret
    exact ⟨rfl, HB2.out⟩
  obtain ⟨n, hn⟩ : ∃ n, n = Qs.length := ⟨_, rfl⟩
  have hsz : ¬ 65536 < sl.size := by omega
  have HLn : Hid (l.length ≤ 65536) := hlen
  rw [← hn] at hcap hql ⊢
  have HQ := hidA hQ
  have HN := hidA hn
  have HK := hidA hck
  have HCh := hidA (check_any w2 go n cap Qs hQ hn hcap (by omega))
  rw [hck] at HCh
  clear hQ hn hck hlen
  go_wp2_with fail
  refine HCh.out.mono ?_
  rintro e w3 ⟨rfl, hb3⟩
  have HB3 : Hid (Go.RowKit.Below w.heap.size w w3) := HB2.out.trans (hb3.mono HB2.out.size)
  have HQ3 := hidA (HQ.out.kept hb3)
  have HE3 := hidA (encS_any w3 go n cap Qs HQ3.out HN.out hcap (by omega) HK.out)
  clear hb3 HB2 HQ HCh
  go_wp2_with fail
  refine HE3.out.mono ?_
  rintro e w4 ⟨a3, l3, c3, rfl, hby, hl3, hb4⟩
  have HB4 : Hid (Go.RowKit.Below w.heap.size w w4) := HB3.out.trans (hb4.mono HB3.out.size)
  have HQ4 := hidA (HQ3.out.kept hb4)
  have HD4 := hidA (decS_any w4 a3 l3 c3 Qs hby hl3 HK.out (fun x hx => (HQ4.out.ok x hx).kin))
  rw [← HN.out] at HD4
  clear hb4 HB3 HQ3 HE3 hby hl3
  go_wp2_with fail
  refine HD4.out.mono ?_
  rintro e w5 ⟨Rs, a4, c4, hrc, rfl, hR, hb5⟩
  have HB5 : Hid (Go.RowKit.Below w.heap.size w w5) := HB4.out.trans (hb5.mono HB4.out.size)
  have HQ5 := hidA (HQ4.out.kept hb5)
  have HS5 := hidA (sameLib_any w5 a4 go n c4 cap Rs Qs hR HQ5.out HN.out (by omega) hrc)
  clear hb5 HB4 HQ4 HD4 hrc hR
  have h65 : ¬ (65536 : Int) < (l.length : Int) := by have := HLn.out; omega
  go_wp2_with (first
    | (go_at_call 17; refine (numL_any w5 0).mono ?_; rintro e w6 ⟨rfl, hwq⟩; have hwq' := hwq.symm; subst hwq'; clear hwq)
    | fail)
  refine HS5.out.mono ?_
  rintro e w6 ⟨rfl, hb6⟩
  have HB6 : Hid (Go.RowKit.Below w.heap.size w w6) := HB5.out.trans (hb6.mono HB5.out.size)
  have HQ6 := hidA (HQ5.out.kept hb6)
  have HL6 := hidA (HLi.out w6 HB6.out go n cap Qs HQ6.out HN.out hcap (by omega))
  obtain ⟨sx, hsx⟩ : ∃ sx, sx = S (outT Qs) := ⟨_, rfl⟩
  rw [← hsx] at HL6
  have HSx := hidA hsx
  clear hb6 HB5 HQ5 HS5 hsx
  go_wp2_with fail
  refine HL6.out.mono ?_
  rintro e w7 ⟨rfl, hb7⟩
  have HB7 : Hid (Go.RowKit.Below w.heap.size w w7) := HB6.out.trans (hb7.mono HB6.out.size)
  have HQ7 := hidA (HQ6.out.kept hb7)
  clear hb7 HB6 HQ6 HL6 h65 hsz
  cases out_cases Qs with
  | bad hc h1 h2 => exact absurd HK.out hc
  | long hc h1 h2 =>
    rw [h2]
    clear h1 h2 hc
    go_wp2_with (first
      | (go_at_call 17; refine (numL_any w7 44).mono ?_; rintro e w8 ⟨rfl, hwq⟩; have hwq' := hwq.symm; subst hwq'; clear hwq)
      | fail)
    go_ret
    exact ⟨rfl, HB7.out⟩
  | good hc hll h1 h2 =>
    have HA7 := hidA (HAg.out w7 HB7.out Qs HK.out hll (fun x hx => ⟨(HQ7.out.ok x hx).nin, (HQ7.out.ok x hx).kin⟩))
    rw [← h1, ← HSx.out, ] at HA7
    rw [h2]
    clear h1 hc HAg
    go_wp2_with (first
      | (go_at_call 17; refine (numL_any w7 0).mono ?_; rintro e w8 ⟨rfl, hwq⟩; have hwq' := hwq.symm; subst hwq'; clear hwq)
      | fail)
    refine HA7.out.mono ?_
    rintro e w8 ⟨g2, cap2, Ts, rfl, hT, htl, htc, htr, hb8⟩
    have HB8 : Hid (Go.RowKit.Below w.heap.size w w8) := HB7.out.trans (hb8.mono HB7.out.size)
    have HQ8 := hidA (HQ7.out.kept hb8)
    have HT8 := hidA hT
    have HTr := hidA htr
    have HL8 := hidA (HLi.out w8 HB8.out g2 n cap2 Ts hT (by rw [htl]; exact HN.out) (by rw [HN.out, ← htl]; exact htc) (by omega))
    rw [(out_coreG htr).1, (out_coreG htr).2, h2, ← HSx.out] at HL8
    rw [← HN.out]
    clear hb8 hT htl htc htr HB7 HQ7 HA7 h2
    go_wp2_with fail
    refine HL8.out.mono ?_
    rintro e w9 ⟨rfl, hb9⟩
    have HB9 : Hid (Go.RowKit.Below w.heap.size w w9) := HB8.out.trans (hb9.mono HB8.out.size)
    have HS9 := hidA (sameLib_any w9 g2 go n cap2 cap Ts Qs (HT8.out.kept hb9) (HQ8.out.kept hb9) HN.out (by omega) HTr.out)
    clear hb9 HB8 HQ8 HT8 HTr HL8
    go_wp2_with fail
    refine HS9.out.mono ?_
    rintro e w10 ⟨rfl, hb10⟩
    have HB10 : Hid (Go.RowKit.Below w.heap.size w w10) := HB9.out.trans (hb10.mono HB9.out.size)
    clear hb10 HB9 HS9
    go_wp2_with (first
      | (go_at_call 17; refine (numL_any w10 0).mono ?_; rintro e w11 ⟨rfl, hwq⟩; have hwq' := hwq.symm; subst hwq'; clear hwq)
      | fail)
    go_ret
    exact ⟨rfl, HB10.out⟩
end Go.Proofs.YtkmafpfldnapjaaGreatDoor
