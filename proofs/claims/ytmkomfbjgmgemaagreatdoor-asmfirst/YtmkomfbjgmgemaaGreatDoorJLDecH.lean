import Derived.Test.YtmkomfbjgmgemaaGreatDoorJLDMath
import Derived.Test.YtmkomfbjgmgemaaGreatDoorJAMap
import Derived.Test.YtmkomfbjgmgemaaGreatDoorJALProc
/-
  WHAT STANDS WHILE A LIBRARY IS READ.
-/
namespace Go.Proofs.YtmkomfbjgmgemaaGreatDoor
open Go.RowKit Go.Sort

/-- the block of a procedure's code -/
def cb (x : Pr) : Option Nat := (Value.slice x.ao x.n x.cap).ownBlock
/-- a procedure whose code is the call's own -/
structure PrC (W : World) (base : Nat) (x : Pr) : Prop where
  len : x.n = x.L.length
  own : OwnK W base (.slice x.ao x.n x.cap) x.L
  nin : NIn x.p
  kin : ∀ k ∈ x.L, KIn k
  str : x.name.size ≤ 31
  big : x.n ≤ 256
theorem PrC.ok {W : World} {base : Nat} {x : Pr} (h : PrC W base x) : PrOK W x := by
  obtain ⟨ao, cap, e, hk, hn, _⟩ := h.own.slice
  simp only [Value.slice.injEq] at e
  obtain ⟨e1, _, e3⟩ := e
  exact ⟨h.len, by rw [e1]; exact hk, h.nin, h.kin, by rw [e1, e3]; exact hn, by have := h.str; omega, by have := h.big; omega⟩
theorem PrC.same {W W' : World} {base : Nat} {x : Pr} (h : PrC W base x) (hs : ∀ g, cb x = some g → W'.heap[g]? = W.heap[g]?) : PrC W' base x := ⟨h.len, h.own.same hs, h.nin, h.kin, h.str, h.big⟩
theorem PrC.lt {W : World} {base : Nat} {x : Pr} (h : PrC W base x) : ∀ g, cb x = some g → base ≤ g ∧ g < W.heap.size := h.own.lt

/-- 'string(b)' of bytes of the call's own -/
theorem string_own {W : World} {base : Nat} {v : Value} {bs : List Nat} (h : OwnB W base v bs) : (convert 71 9 v).run Tryz.prog W = .ok (.string (nmS bs)) W := by
  rcases h.shape with ⟨rfl, rfl⟩ | ⟨g, cap, rfl, _, _, _, _, hb⟩
  · rw [run_convert_bytes_string W 71 9 5 none 0 0 Tryz.underlying71 Tryz.underlying5 Tryz.underlying9]
    rfl
  · have e : bs.length = (bs.map UInt8.ofNat).length := by simp
    rw [e]
    refine run_convert_bytes_back (P := Tryz.prog) W 71 9 5 ⟨g, 0, none⟩ cap (bs.map UInt8.ofNat) Tryz.underlying71 Tryz.underlying5 Tryz.underlying9 fun j hj => ?_
    have hj' : j < bs.length := by simpa using hj
    rw [addr_add, Nat.zero_add]
    obtain ⟨hz, h1 | ⟨b', o', e', hc⟩⟩ := hb
    · rw [h1] at hj'; simp at hj'
    · cases e'
      have := hc j hj'
      rw [Nat.zero_add] at this
      rw [this]
      have e2 : bs.getD j 0 = bs[j] := by simp [List.getD_eq_getElem?_getD, List.getElem?_eq_getElem hj']
      rw [e2, List.getElem_map, u8_back _ (hz _ (List.getElem_mem hj'))]

end Go.Proofs.YtmkomfbjgmgemaaGreatDoor
/-
  THE WALK OF List.
-/
namespace Go.Proofs.YtmkomfbjgmgemaaGreatDoor
open Go.RowKit Go.Sort Go.Shelf

/-- lines, each ended by a line feed -/
def joinL (M : List (List UInt8)) : List UInt8 := M.flatMap fun l => l ++ [10]
theorem joinL_snoc (M : List (List UInt8)) (l : List UInt8) : joinL (M ++ [l]) = joinL M ++ (l ++ [10]) := by simp [joinL]
theorem joinL_append (M N : List (List UInt8)) : joinL (M ++ N) = joinL M ++ joinL N := by simp [joinL]
theorem joinL_len (M : List (List UInt8)) (h : ∀ l ∈ M, l.length ≤ 150) : (joinL M).length ≤ 151 * M.length := by
  induction M with
  | nil => simp [joinL]
  | cons l M ih =>
    have h1 := ih (fun x hx => h x (by simp [hx]))
    have h2 := h l (by simp)
    simp only [joinL, List.flatMap_cons, List.length_append, List.length_cons, List.length_nil] at h1 ⊢
    omega
def nmL' (x : Pr) : List UInt8 := x.name.data.toList
def linesX (x : Pr) : List (List UInt8) := linesP (nmL' x) x.p x.L
def textX (x : Pr) : List UInt8 := joinL (linesX x)
def listT : List Pr → List UInt8
  | [] => []
  | x :: Ps => textX x ++ listT Ps
theorem listT_append (A B : List Pr) : listT (A ++ B) = listT A ++ listT B := by
  induction A with
  | nil => rfl
  | cons k A ih => simp [listT, ih]
theorem listT_take (Ps : List Pr) (k : Nat) (h : k < Ps.length) : listT (Ps.take (k + 1)) = listT (Ps.take k) ++ textX (pd Ps k) := by
  rw [pd_take Ps k h, listT_append]; simp [listT]
/-- a procedure that is sound -/
structure Snd (x : Pr) : Prop where
  nm : x.name.size ≤ 31
  nin : NIn x.p
  kin : ∀ k ∈ x.L, KIn k
  big : x.L.length ≤ 256
  jmp : ∀ k ∈ x.L, jumpB k.1 = true → 0 ≤ k.2 ∧ k.2 ≤ (x.L.length : Int)
theorem Snd.of {W : World} {ao : Option Addr} {Ps : List Pr} (h : (checkN Ps).2 = 0) (hl : LibAt W ao Ps) : ∀ x ∈ Ps, Snd x := by
  intro x hx
  have h31 := check_small h x hx
  have hok := hl.ok x hx
  obtain ⟨i, hi, rfl⟩ := List.mem_iff_getElem.1 hx
  have e : pd Ps i = Ps[i] := by simp [pd, List.getD_eq_getElem?_getD, List.getElem?_eq_getElem hi]
  have hv := (chk_zero ((check_name h).2 i hi)).2.2
  rw [e] at hv
  obtain ⟨h1, h2, _⟩ := verify_ok hv
  refine ⟨h31, hok.nin, hok.kin, ((limB_iff _ _).1 h1).2.2.2.2, fun k hk hj => ?_⟩
  obtain ⟨j, hj', rfl⟩ := List.mem_iff_getElem.1 hk
  have h3 := firstE_zero h2 j hj'
  have e2 : cd Ps[i].L j = Ps[i].L[j] := by simp [cd, List.getD_eq_getElem?_getD, List.getElem?_eq_getElem hj']
  simp only [lookN, e2] at h3
  split at h3
  · cases h3
  · split at h3
    · cases h3
    · rename_i hn
      have hn' : ¬ (Ps[i].L[j].2 ≤ (j : Int) ∨ (Ps[i].L.length : Int) < Ps[i].L[j].2) := fun hh => hn ⟨hj, hh⟩
      omega
theorem bodyL_len {L : List K} (hk : ∀ k ∈ L, KIn k) (hb : L.length ≤ 256) : ∀ k, k ≤ L.length → ∀ l ∈ bodyL L k, l.length ≤ 150
  | 0, _, l, hl => by simp [bodyL] at hl
  | k + 1, hkl, l, hl => by
    have ih := bodyL_len hk hb k (by omega)
    simp only [bodyL, List.mem_append] at hl
    rcases hl with (hl | hl) | hl
    · exact ih l hl
    · split at hl
      · simp at hl; subst hl
        have := labelL_len (n := (k : Int)) (by unfold In64; omega)
        simp; omega
      · cases hl
    · simp at hl; subst hl
      have : (instrL (cd L k)).length ≤ 40 := instrL_len (hk _ (kd_mem (L := L) (j := k) (by omega)))
      simp; omega
theorem linesX_len {x : Pr} (h : Snd x) : (∀ l ∈ linesX x, l.length ≤ 150) ∧ (linesX x).length ≤ 515 := by
  have hb := h.big
  have hn : (nmL' x).length ≤ 31 := by unfold nmL'; simpa using h.nm
  have h1 := bodyL_length x.L x.L.length
  constructor
  · intro l hl
    simp only [linesX, linesP, List.mem_append] at hl
    rcases hl with ((hl | hl) | hl) | hl
    · simp at hl; subst hl
      have := flL_len h.nin hn 4
      omega
    · exact bodyL_len h.kin hb _ (Nat.le_refl _) l hl
    · split at hl
      · simp at hl; subst hl
        have := labelL_len (n := (x.L.length : Int)) (by unfold In64; omega)
        simp; omega
      · cases hl
    · simp at hl; subst hl; simp [endlL]
  · simp only [linesX, linesP, List.length_append, List.length_cons, List.length_nil]
    split <;> simp <;> omega
theorem textX_len {x : Pr} (h : Snd x) : (textX x).length ≤ 80000 := by
  have h1 := joinL_len _ (linesX_len h).1
  have h2 := (linesX_len h).2
  unfold textX; omega
theorem listT_len : ∀ Ps : List Pr, (∀ x ∈ Ps, Snd x) → (listT Ps).length ≤ 80000 * Ps.length
  | [], _ => by simp [listT]
  | x :: Ps, h => by
    have h1 := textX_len (h x (by simp))
    have h2 := listT_len Ps (fun y hy => h y (by simp [hy]))
    simp only [listT, List.length_append, List.length_cons]; omega
/-- what List answers -/
def outT (Ps : List Pr) : List UInt8 := if (checkN Ps).2 = 0 ∧ (listT Ps).length ≤ 65536 then listT Ps else []
def outE (Ps : List Pr) : Int := if (checkN Ps).2 ≠ 0 then (checkN Ps).2 else if (listT Ps).length ≤ 65536 then 0 else 44
/-- signs as numbers -/
def nb (l : List UInt8) : List Nat := l.map (·.toNat)
theorem nb_append (a b : List UInt8) : nb (a ++ b) = nb a ++ nb b := by simp [nb]
theorem nb_S (l : List UInt8) : nmB (S l) = nb l := by simp [nmB, S, nb]
theorem nmS_nb (l : List UInt8) : nmS (nb l) = S l := by
  simp only [nmS, nb, S, List.map_map]
  congr 2
  conv => rhs; rw [← List.map_id l]
  exact List.map_congr_left fun z _ => by simp
theorem nb_len (l : List UInt8) : (nb l).length = l.length := by simp [nb]

/-- bytes and texts never share a block -/
theorem bs_apart {W : World} {B B' : Nat} {v u : Value} {M : List Nat} {xs : List Value} (h : OwnB W B v M) (k : OwnS W B' u xs) : ∀ q, u.ownBlock = some q → v.ownBlock ≠ some q := by
  intro q hq e
  obtain ⟨_, _, h⟩ := h
  obtain ⟨_, k⟩ := k
  rcases h with ⟨rfl, _⟩ | ⟨g, cp, cur, rfl, _, hg, _⟩
  · cases e
  · rcases k with ⟨rfl, _⟩ | ⟨g', cp', cur', rfl, _, hg', _⟩
    · cases hq
    · cases e; cases hq
      rw [hg] at hg'
      injection hg' with e1
      injection e1 with _ e2
      revert e2
      decide
theorem joinL_take (M : List (List UInt8)) (j : Nat) (h : j < M.length) : joinL (M.take (j + 1)) = joinL (M.take j) ++ (M.getD j [] ++ [10]) := by
  rw [List.take_succ_eq_append_getElem h, joinL_snoc]
  simp [List.getD_eq_getElem?_getD, List.getElem?_eq_getElem h]
set_option maxRecDepth 100000 in
set_option maxHeartbeats 2000000 in
theorem list_any (w : World) (ao : Option Addr) (n cap : Nat) (Ps : List Pr) (h : LibAt w ao Ps) (hn : n = Ps.length) (hc : n ≤ cap) (hm : n ≤ 140737488351232) (hv : Vs w) :
    Calls Tryz.prog 10 #[.slice ao n cap] w fun e w' => e = .returned (.tuple #[.string (S (outT Ps)), .int .i64 (outE Ps)]) ∧ Below w.heap.size w w' := by
  have H : Hid (LibAt w ao Ps) := h
  have HN : Hid (n = Ps.length) := hn
  have HV : Hid (Vs w) := hv
  clear h hn hv
  go_enter Tryz.func10, Tryz.ntmps10
  go_wp2_with fail
  refine (check_any w ao n cap Ps H.out HN.out hc hm).mono ?_
  rintro e w1 ⟨rfl, hb1⟩
  have HB1 : Hid (Below w.heap.size w w1) := hb1
  clear hb1
  by_cases h0 : (checkN Ps).2 = 0
  · have HSd : Hid (∀ x ∈ Ps, Snd x) := Snd.of h0 H.out
    have h64 : n ≤ 64 := by have := (check_name h0).1; have := HN.out; omega
    have HO : Hid (outT Ps = (if (listT Ps).length ≤ 65536 then listT Ps else []) ∧ outE Ps = (if (listT Ps).length ≤ 65536 then 0 else 44)) := by
      unfold outT outE
      refine ⟨?_, by rw [if_neg (by simpa using h0)]⟩
      by_cases h6 : (listT Ps).length ≤ 65536
      · rw [if_pos ⟨h0, h6⟩, if_pos h6]
      · rw [if_neg (fun hh => h6 hh.2), if_neg h6]
    have HE0 : Hid (OwnB w1 w.heap.size (.slice none 0 0) (nb (listT (Ps.take 0)))) := OwnB.nil _ _
    rw [h0]
    clear h0
    generalize (checkN Ps).1 = at1 at *
    go_wp2_with fail
    go_loopw [6, 21] (fun v y wr => ∃ (k l : Nat) (a : Option Addr) (c : Nat), k ≤ n ∧ v = .slice a l c ∧ y = .int .i64 (k : Int) ∧ Hid (OwnB wr w.heap.size (.slice a l c) (nb (listT (Ps.take k)))) ∧ Hid (Below w.heap.size w wr)) (fun _ y _ => n - (intOf y).toNat)
    case atStart => exact ⟨0, 0, none, 0, Nat.zero_le _, rfl, rfl, HE0, HB1⟩
    case round =>
      clear HE0 HB1
      obtain ⟨k, l, a, c, hk, rfl, rfl, HE, HB⟩ := hrel
      by_cases hlt : k < n
      · have hlt' : k < Ps.length := by have := HN.out; omega
        obtain ⟨b, off, rfl, c0, c1, c2, c3, c4, c5⟩ := (H.out.at_.kept HB.out).get k hlt'
        have HT : Hid (listT (Ps.take (k + 1)) = listT (Ps.take k) ++ textX (pd Ps k)) := listT_take Ps k hlt'
        have HOk : Hid (PrOK w (pd Ps k)) := H.out.ok _ (pd_mem hlt')
        have HSn : Hid (Snd (pd Ps k)) := HSd.out _ (pd_mem hlt')
        have hbt : (listT (Ps.take k)).length ≤ 80000 * 64 := by
          have h1 := listT_len (Ps.take k) (fun x hx => HSd.out x (List.mem_of_mem_take hx))
          have h2 : (Ps.take k).length ≤ 64 := by rw [List.length_take]; omega
          omega
        generalize pd Ps k = x at *
        have hx31 : (nmL' x).length ≤ 31 := by unfold nmL'; simpa using HSn.out.nm
        have HNmS : Hid (x.name = S (nmL' x)) := (S_of _).symm
        rw [HNmS.out] at c0
        have HBl : Hid (Below wr.heap.size wr (wr.alloc (.cells #[.string (S (nmL' x)), .int .i64 x.p.args, .int .i64 x.p.reads, .int .i64 x.p.writes, .int .i64 x.p.locals, .slice x.ao x.n x.cap] 38))) := (Below.refl _ _).alloc (Nat.le_refl _) _
        have HX1 : Hid (RBox (wr.alloc (.cells #[.string (S (nmL' x)), .int .i64 x.p.args, .int .i64 x.p.reads, .int .i64 x.p.writes, .int .i64 x.p.locals, .slice x.ao x.n x.cap] 38)) wr.heap.size x) := by have := RBox.new wr x; rw [HNmS.out] at this; exact this
        have HE1 := HE.out.kept HBl.out
        have HE1' : Hid (OwnB (wr.alloc (.cells #[.string (S (nmL' x)), .int .i64 x.p.args, .int .i64 x.p.reads, .int .i64 x.p.writes, .int .i64 x.p.locals, .slice x.ao x.n x.cap] 38)) w.heap.size (.slice a l c) (nb (listT (Ps.take k)))) := HE1
        have HB1 : Hid (Below w.heap.size w (wr.alloc (.cells #[.string (S (nmL' x)), .int .i64 x.p.args, .int .i64 x.p.reads, .int .i64 x.p.writes, .int .i64 x.p.locals, .slice x.ao x.n x.cap] 38))) := HB.out.trans (HBl.out.mono HB.out.size)
        clear HE1 HE HB
        go_upto_region 8 with fail
        clear c0 c1 c2 c3 c4 c5
        generalize wr.alloc (.cells #[.string (S (nmL' x)), .int .i64 x.p.args, .int .i64 x.p.reads, .int .i64 x.p.writes, .int .i64 x.p.locals, .slice x.ao x.n x.cap] 38) = w2 at *
        generalize wr.heap.size = B2 at *
        obtain ⟨x0, x1, x2, x3, x4, x5⟩ := HX1.out.cells
        rw [HNmS.out] at x0
        go_wp2_with fail
        refine (listProc_any w2 (nmL' x) x.p x.ao x.n x.cap x.L HSn.out.nin hx31 ⟨HOk.out.ks.kept HB1.out, HSn.out.kin, HSn.out.jmp, HSn.out.big⟩ HOk.out.len (HV.out.kept HB1.out)).mono ?_
        rintro e w3 ⟨v3, rfl, ho3, hb3⟩
        have HLen : Hid ((linesX x).length ≤ 515 ∧ ∀ l ∈ linesX x, l.length ≤ 150) := ⟨(linesX_len HSn.out).2, (linesX_len HSn.out).1⟩
        have HTx : Hid (textX x = joinL (linesX x)) := rfl
        have ho3' : OwnS w3 w2.heap.size v3 (tv (linesX x)) := ho3
        obtain ⟨a3, c3', hv3⟩ := ho3'.opn
        rw [tv_length] at hv3
        generalize linesX x = M at *
        obtain ⟨ml, hml⟩ : ∃ ml, ml = M.length := ⟨_, rfl⟩
        rw [← hml] at hv3
        subst hv3
        have HMl : Hid (ml = M.length) := hml
        have hml2 : ml ≤ 515 := by rw [hml]; exact HLen.out.1
        have HS3 : Hid (OwnS w3 w2.heap.size (.slice a3 ml c3') (tv M)) := ho3'
        have HE3 : Hid (OwnB w3 w.heap.size (.slice a l c) (nb (listT (Ps.take k) ++ joinL (M.take 0)))) := by
          have := HE1'.out.kept hb3
          rw [List.take_zero]; show OwnB w3 w.heap.size _ _; simpa [joinL] using this
        have HB3 : Hid (Below w.heap.size w w3) := HB1.out.trans (hb3.mono HB1.out.size)
        clear ho3 ho3' hb3 hml HE1' HB1 HX1 x0 x1 x2 x3 x4 x5 HBl HNmS
        generalize listT (Ps.take k) = T at *
        go_wp2_with fail
        go_loopw [6, 28] (fun v y wr => ∃ (j l : Nat) (a : Option Addr) (c : Nat), j ≤ ml ∧ v = .slice a l c ∧ y = .int .i64 (j : Int) ∧ Hid (OwnB wr w.heap.size (.slice a l c) (nb (T ++ joinL (M.take j)))) ∧ Hid (OwnS wr w2.heap.size (.slice a3 ml c3') (tv M)) ∧ Hid (Below w.heap.size w wr)) (fun _ y _ => ml - (intOf y).toNat)
        case atStart => exact ⟨0, l, a, c, Nat.zero_le _, rfl, rfl, HE3, HS3, HB3⟩
        case round =>
          clear HE3 HS3 HB3
          obtain ⟨j, l4, a4, c4', hj, rfl, rfl, HE, HS, HB⟩ := hrel
          by_cases hjl : j < ml
          · have hjM : j < M.length := by have := HMl.out; omega
            obtain ⟨g3, rfl, d0⟩ : ∃ g3, a3 = some ⟨g3, 0, none⟩ ∧ wr.cell? ⟨g3, j, none⟩ = some (.string (S (M.getD j []))) := by
              rcases HS.out.shape with ⟨e, h0⟩ | ⟨g3, cp, e, _, _, _, hcs⟩
              · have : M.length = 0 := by rw [← tv_length, h0]; rfl
                omega
              · injection e with e1 e2 e3
                refine ⟨g3, e1, hcs j _ ?_⟩
                simp [tv, List.getD_eq_getElem?_getD, List.getElem?_eq_getElem hjM]
            have HJ : Hid (joinL (M.take (j + 1)) = joinL (M.take j) ++ (M.getD j [] ++ [10])) := joinL_take M j hjM
            have hll : (M.getD j []).length ≤ 150 := by
              have : M.getD j [] ∈ M := by simp [List.getD_eq_getElem?_getD, List.getElem?_eq_getElem hjM]
              exact HLen.out.2 _ this
            have hjt : (joinL (M.take j)).length ≤ 80000 := by
              have h1 := joinL_len (M.take j) (fun l hl => HLen.out.2 l (List.mem_of_mem_take hl))
              have h2 : (M.take j).length ≤ 515 := by rw [List.length_take]; omega
              omega
            generalize M.getD j [] = ln at *
            obtain ⟨X, hX⟩ : ∃ X, X = T ++ joinL (M.take j) := ⟨_, rfl⟩
            have hXl : X.length ≤ 6000000 := by rw [hX, List.length_append]; omega
            rw [← hX] at HE
            have HXe : Hid (T ++ joinL (M.take (j + 1)) = X ++ ln ++ [10]) := by show _ = _; rw [HJ.out, hX]; simp
            have hsz : (S ln).size ≤ 150 := by rw [S_size]; exact hll
            clear hX HJ hjt
            go_wp2_with (first
              | (at_builtin; refine wpList_append_bytes rfl _ _ rfl w.heap.size (.slice a5 l5 c5) (nb (X ++ ln)) rfl (HE5.out.kept ((Below.refl _ _).alloc (Nat.le_refl _) _)) _ 1 1 [10] rfl rfl (OwnB.made (w := w5) (L := [10]) (by decide) (by decide) (Nat.le_refl _)).bytes.1 (by simp) (by rw [nb_len, List.length_append]; simp only [List.length_cons, List.length_nil]; omega) (by have := HB5.out.size; simp only [World.size_alloc]; omega) ?_; intro v6 w6 ho6 hg6)
              | (at_builtin; refine wpList_append_str rfl _ _ rfl w.heap.size (.slice a4 l4 c4') (nb X) rfl HE.out (S ln) rfl (by rw [nb_len]; omega) HB.out.size ?_; intro v5 w5 ho5 hg5; have HS5 : Hid (OwnS w5 w2.heap.size (.slice (some ⟨g3, 0, none⟩) ml c3') (tv M)) := HS.out.grown hg5 (fun q hq e => bs_apart HE.out HS.out q hq e); have HB5 : Hid (Below w.heap.size w w5) := HB.out.trans (below_grown hg5 (fun q hq => (HE.out.2.lt q hq).1) HB.out.size); have HE5' : OwnB w5 w.heap.size v5 (nb (X ++ ln)) := (by rw [nb_append, ← nb_S ln]; exact ho5); obtain ⟨a5, c5, hv5, _, _, _⟩ := HE5'.slice; obtain ⟨l5, hl5⟩ : ∃ l5, l5 = (nb (X ++ ln)).length := ⟨_, rfl⟩; rw [← hl5] at hv5; clear hl5; subst hv5; have HE5 : Hid (OwnB w5 w.heap.size (.slice a5 l5 c5) (nb (X ++ ln))) := HE5'; clear HE5' ho5 hg5))
            have HBl5 : Hid (Below w5.heap.size w5 (w5.alloc (.cells #[.int .u8 10] 5))) := (Below.refl _ _).alloc (Nat.le_refl _) _
            have HE6' : OwnB w6 w.heap.size v6 (nb (T ++ joinL (M.take (j + 1)))) := by rw [HXe.out, nb_append]; exact ho6
            have HS6 : Hid (OwnS w6 w2.heap.size (.slice (some ⟨g3, 0, none⟩) ml c3') (tv M)) := (HS5.out.kept HBl5.out).grown hg6 (fun q hq e => bs_apart HE5.out HS5.out q hq e)
            have HB6 : Hid (Below w.heap.size w w6) := (HB5.out.trans (HBl5.out.mono HB5.out.size)).trans (below_grown hg6 (fun q hq => (HE5.out.2.lt q hq).1) (by have := HB5.out.size; simp only [World.size_alloc]; omega))
            obtain ⟨a6, c6, hv6, _, _, _⟩ := HE6'.slice
            obtain ⟨l6, hl6⟩ : ∃ l6, l6 = (nb (T ++ joinL (M.take (j + 1)))).length := ⟨_, rfl⟩
            rw [← hl6] at hv6
            clear hl6
            subst hv6
            have HE6 : Hid (OwnB w6 w.heap.size (.slice a6 l6 c6) (nb (T ++ joinL (M.take (j + 1))))) := HE6'
            clear HE6' ho6 hg6 HE5 HS5 HB5 HBl5 HE HS HB
            go_wp2_with fail
            go_roundw
            case rel => exact ⟨j + 1, l6, a6, c6, by omega, rfl, by go_num, HE6, HS6, HB6⟩
            case measure => simp [intOf]; omega
          · obtain rfl : j = ml := by omega
            have HEn : Hid (OwnB wr w.heap.size (.slice a4 l4 c4') (nb (listT (Ps.take (k + 1))))) := by
              have := HE.out
              rw [HMl.out, List.take_length] at this
              rw [HT.out, HTx.out]; exact this
            clear HE HS
            go_wp2_with fail
            go_roundw
            case rel => exact ⟨k + 1, l4, a4, c4', by omega, rfl, by go_num, HEn, HB⟩
            case measure => simp [intOf]; omega
      · obtain rfl : k = n := by omega
        have HEf : Hid (OwnB wr w.heap.size (.slice a l c) (nb (listT Ps))) := by have := HE.out; rw [HN.out, List.take_length] at this; exact this
        have hl : l = (listT Ps).length := by rw [← nb_len]; exact HEf.out.bytes.2
        have hcv := string_own HEf.out
        rw [nmS_nb] at hcv
        clear HE
        by_cases h6 : (listT Ps).length ≤ 65536
        · have h6' : ¬ ((65536 : Int) < (l : Int)) := by omega
          have HOT : Hid (outT Ps = listT Ps ∧ outE Ps = 0) := ⟨by rw [HO.out.1, if_pos h6], by rw [HO.out.2, if_pos h6]⟩
          clear hl h6
          go_wp2
          go_ret2
          exact ⟨by rw [HOT.out.1, HOT.out.2]; rfl, HB.out⟩
        · have h6' : (65536 : Int) < (l : Int) := by omega
          have HOT : Hid (outT Ps = [] ∧ outE Ps = 44) := ⟨by rw [HO.out.1, if_neg h6], by rw [HO.out.2, if_neg h6]⟩
          clear hl h6
          go_wp2
          go_ret2
          exact ⟨by rw [HOT.out.1, HOT.out.2]; rfl, HB.out⟩
  · have h0' : ((checkN Ps).2 != 0) = true := by simpa using h0
    have HO : Hid (outT Ps = [] ∧ outE Ps = (checkN Ps).2) := by unfold outT outE; exact ⟨if_neg (fun hh => h0 hh.1), if_pos h0⟩
    generalize hc2 : (checkN Ps).2 = c2 at *
    generalize (checkN Ps).1 = at1 at *
    clear h0
    go_wp2
    go_ret2
    exact ⟨by rw [HO.out.1, HO.out.2]; rfl, HB1.out⟩
end Go.Proofs.YtmkomfbjgmgemaaGreatDoor
