import Derived.Test.YtkmafpfldnapjaaGreatDoorKALProc
import Derived.Test.YtkmafpfldnapjaaGreatDoorKLDMath
import Derived.Test.YtkmafpfldnapjaaGreatDoorKARd
import Derived.Test.YtkmafpfldnapjaaGreatDoorKAAssem
/-
  THE WALK OF List.
-/
namespace Go.Proofs.YtkmafpfldnapjaaGreatDoor
open Go.RowKit Go.Sort Go.Shelf

/-- lines, each ended by a line feed -/
def joinL (M : List (List UInt8)) : List UInt8 := M.flatMap fun l => l ++ [10]
theorem joinL_snoc (M : List (List UInt8)) (l : List UInt8) : joinL (M ++ [l]) = joinL M ++ (l ++ [10]) := by simp [joinL]
theorem joinL_append (M N : List (List UInt8)) : joinL (M ++ N) = joinL M ++ joinL N := by simp [joinL]
theorem joinL_len (M : List (List UInt8)) (h : ∀ l ∈ M, l.length ≤ 150) : (joinL M).length ≤ 151 * M.length := by
  induction M with
  | nil => simp [joinL]
  | cons l M ih =>
    have h1 := ih (fun x hx => h x (by simp [hx]))
    have h2 := h l (by simp)
    simp only [joinL, List.flatMap_cons, List.length_append, List.length_cons, List.length_nil] at h1 ⊢
    omega
def nmL' (x : Pr) : List UInt8 := x.name.data.toList
def linesX (x : Pr) : List (List UInt8) := linesP (nmL' x) x.p x.L
def textX (x : Pr) : List UInt8 := joinL (linesX x)
def listT : List Pr → List UInt8
  | [] => []
  | x :: Ps => textX x ++ listT Ps
theorem listT_append (A B : List Pr) : listT (A ++ B) = listT A ++ listT B := by
  induction A with
  | nil => rfl
  | cons k A ih => simp [listT, ih]
theorem listT_take (Ps : List Pr) (k : Nat) (h : k < Ps.length) : listT (Ps.take (k + 1)) = listT (Ps.take k) ++ textX (pd Ps k) := by
  rw [pd_take Ps k h, listT_append]; simp [listT]
/-- a procedure that is sound -/
structure Snd (x : Pr) : Prop where
  nm : x.name.size ≤ 31
  nin : NIn x.p
  kin : ∀ k ∈ x.L, KIn k
  big : x.L.length ≤ 256
  jmp : ∀ k ∈ x.L, jumpB k.1 = true → 0 ≤ k.2 ∧ k.2 ≤ (x.L.length : Int)
theorem Snd.of {W : World} {ao : Option Addr} {Ps : List Pr} (h : (checkN Ps).2 = 0) (hl : LibAt W ao Ps) : ∀ x ∈ Ps, Snd x := by
  intro x hx
  have h31 := check_small h x hx
  have hok := hl.ok x hx
  obtain ⟨i, hi, rfl⟩ := List.mem_iff_getElem.1 hx
  have e : pd Ps i = Ps[i] := by simp [pd, List.getD_eq_getElem?_getD, List.getElem?_eq_getElem hi]
  have hv := (chk_zero ((check_name h).2 i hi)).2.2
  rw [e] at hv
  obtain ⟨h1, h2, _⟩ := verify_ok hv
  refine ⟨h31, hok.nin, hok.kin, ((limB_iff _ _).1 h1).2.2.2.2, fun k hk hj => ?_⟩
  obtain ⟨j, hj', rfl⟩ := List.mem_iff_getElem.1 hk
  have h3 := firstE_zero h2 j hj'
  have e2 : cd Ps[i].L j = Ps[i].L[j] := by simp [cd, List.getD_eq_getElem?_getD, List.getElem?_eq_getElem hj']
  simp only [lookN, e2] at h3
  split at h3
  · cases h3
  · split at h3
    · cases h3
    · rename_i hn
      have hn' : ¬ (Ps[i].L[j].2 ≤ (j : Int) ∨ (Ps[i].L.length : Int) < Ps[i].L[j].2) := fun hh => hn ⟨hj, hh⟩
      omega
theorem bodyL_len {L : List K} (hk : ∀ k ∈ L, KIn k) (hb : L.length ≤ 256) : ∀ k, k ≤ L.length → ∀ l ∈ bodyL L k, l.length ≤ 150
  | 0, _, l, hl => by simp [bodyL] at hl
  | k + 1, hkl, l, hl => by
    have ih := bodyL_len hk hb k (by omega)
    simp only [bodyL, List.mem_append] at hl
    rcases hl with (hl | hl) | hl
    · exact ih l hl
    · split at hl
      · simp at hl; subst hl
        have := labelL_len (n := (k : Int)) (by unfold In64; omega)
        simp; omega
      · cases hl
    · simp at hl; subst hl
      have : (instrL (cd L k)).length ≤ 40 := instrL_len (hk _ (kd_mem (L := L) (j := k) (by omega)))
      simp; omega
theorem linesX_len {x : Pr} (h : Snd x) : (∀ l ∈ linesX x, l.length ≤ 150) ∧ (linesX x).length ≤ 515 := by
  have hb := h.big
  have hn : (nmL' x).length ≤ 31 := by unfold nmL'; simpa using h.nm
  have h1 := bodyL_length x.L x.L.length
  constructor
  · intro l hl
    simp only [linesX, linesP, List.mem_append] at hl
    rcases hl with ((hl | hl) | hl) | hl
    · simp at hl; subst hl
      have := flL_len h.nin hn 4
      omega
    · exact bodyL_len h.kin hb _ (Nat.le_refl _) l hl
    · split at hl
      · simp at hl; subst hl
        have := labelL_len (n := (x.L.length : Int)) (by unfold In64; omega)
        simp; omega
      · cases hl
    · simp at hl; subst hl; simp [endlL]
  · simp only [linesX, linesP, List.length_append, List.length_cons, List.length_nil]
    split <;> simp <;> omega
theorem textX_len {x : Pr} (h : Snd x) : (textX x).length ≤ 80000 := by
  have h1 := joinL_len _ (linesX_len h).1
  have h2 := (linesX_len h).2
  unfold textX; omega
theorem listT_len : ∀ Ps : List Pr, (∀ x ∈ Ps, Snd x) → (listT Ps).length ≤ 80000 * Ps.length
  | [], _ => by simp [listT]
  | x :: Ps, h => by
    have h1 := textX_len (h x (by simp))
    have h2 := listT_len Ps (fun y hy => h y (by simp [hy]))
    simp only [listT, List.length_append, List.length_cons]; omega
/-- what List answers -/
def outT (Ps : List Pr) : List UInt8 := if (checkN Ps).2 = 0 ∧ (listT Ps).length ≤ 65536 then listT Ps else []
def outE (Ps : List Pr) : Int := if (checkN Ps).2 ≠ 0 then (checkN Ps).2 else if (listT Ps).length ≤ 65536 then 0 else 44
/-- signs as numbers -/
def nb (l : List UInt8) : List Nat := l.map (·.toNat)
theorem nb_append (a b : List UInt8) : nb (a ++ b) = nb a ++ nb b := by simp [nb]
theorem nb_S (l : List UInt8) : nmB (S l) = nb l := by simp [nmB, S, nb]
theorem nmS_nb (l : List UInt8) : nmS (nb l) = S l := by
  simp only [nmS, nb, S, List.map_map]
  congr 2
  conv => rhs; rw [← List.map_id l]
  exact List.map_congr_left fun z _ => by simp
theorem nb_len (l : List UInt8) : (nb l).length = l.length := by simp [nb]

/-- bytes and texts never share a block -/
theorem bs_apart {W : World} {B B' : Nat} {v u : Value} {M : List Nat} {xs : List Value} (h : OwnB W B v M) (k : OwnS W B' u xs) : ∀ q, u.ownBlock = some q → v.ownBlock ≠ some q := by
  intro q hq e
  obtain ⟨_, _, h⟩ := h
  obtain ⟨_, k⟩ := k
  rcases h with ⟨rfl, _⟩ | ⟨g, cp, cur, rfl, _, hg, _⟩
  · cases e
  · rcases k with ⟨rfl, _⟩ | ⟨g', cp', cur', rfl, _, hg', _⟩
    · cases hq
    · cases e; cases hq
      rw [hg] at hg'
      injection hg' with e1
      injection e1 with _ e2
      revert e2
      decide
theorem joinL_take (M : List (List UInt8)) (j : Nat) (h : j < M.length) : joinL (M.take (j + 1)) = joinL (M.take j) ++ (M.getD j [] ++ [10]) := by
  rw [List.take_succ_eq_append_getElem h, joinL_snoc]
  simp [List.getD_eq_getElem?_getD, List.getElem?_eq_getElem h]
set_option maxRecDepth 100000 in
set_option maxHeartbeats 2000000 in
theorem list_any (w : World) (ao : Option Addr) (n cap : Nat) (Ps : List Pr) (h : LibAt w ao Ps) (hn : n = Ps.length) (hc : n ≤ cap) (hm : n ≤ 140737488351232) (hv : Vs w) :
    Calls Tryz.prog 14 #[.slice ao n cap] w fun e w' => e = .returned (.tuple #[.string (S (outT Ps)), .int .i64 (outE Ps)]) ∧ Below w.heap.size w w' := by
  have H : Hid (LibAt w ao Ps) := h
  have HN : Hid (n = Ps.length) := hn
  have HV : Hid (Vs w) := hv
  clear h hn hv
  go_enter Tryz.func14, Tryz.ntmps14
  go_wp2_with fail
  refine (check_any w ao n cap Ps H.out HN.out hc hm).mono ?_
  rintro e w1 ⟨rfl, hb1⟩
  have HB1 : Hid (Below w.heap.size w w1) := hb1
  clear hb1
  by_cases h0 : (checkN Ps).2 = 0
  · have HSd : Hid (∀ x ∈ Ps, Snd x) := Snd.of h0 H.out
    have h64 : n ≤ 64 := by have := (check_name h0).1; have := HN.out; omega
    have HO : Hid (outT Ps = (if (listT Ps).length ≤ 65536 then listT Ps else []) ∧ outE Ps = (if (listT Ps).length ≤ 65536 then 0 else 44)) := by
      unfold outT outE
      refine ⟨?_, by rw [if_neg (by simpa using h0)]⟩
      by_cases h6 : (listT Ps).length ≤ 65536
      · rw [if_pos ⟨h0, h6⟩, if_pos h6]
      · rw [if_neg (fun hh => h6 hh.2), if_neg h6]
    have HE0 : Hid (OwnB w1 w.heap.size (.slice none 0 0) (nb (listT (Ps.take 0)))) := OwnB.nil _ _
    rw [h0]
    clear h0
    generalize (checkN Ps).1 = at1 at *
    go_wp2_with fail
    go_loopw [6, 21] (fun v y wr => ∃ (k l : Nat) (a : Option Addr) (c : Nat), k ≤ n ∧ v = .slice a l c ∧ y = .int .i64 (k : Int) ∧ Hid (OwnB wr w.heap.size (.slice a l c) (nb (listT (Ps.take k)))) ∧ Hid (Below w.heap.size w wr)) (fun _ y _ => n - (intOf y).toNat)
    case atStart => exact ⟨0, 0, none, 0, Nat.zero_le _, rfl, rfl, HE0, HB1⟩
    case round =>
      clear HE0 HB1
      obtain ⟨k, l, a, c, hk, rfl, rfl, HE, HB⟩ := hrel
      by_cases hlt : k < n
      · have hlt' : k < Ps.length := by have := HN.out; omega
        obtain ⟨b, off, rfl, c0, c1, c2, c3, c4, c5⟩ := (H.out.at_.kept HB.out).get k hlt'
        have HT : Hid (listT (Ps.take (k + 1)) = listT (Ps.take k) ++ textX (pd Ps k)) := listT_take Ps k hlt'
        have HOk : Hid (PrOK w (pd Ps k)) := H.out.ok _ (pd_mem hlt')
        have HSn : Hid (Snd (pd Ps k)) := HSd.out _ (pd_mem hlt')
        have hbt : (listT (Ps.take k)).length ≤ 80000 * 64 := by
          have h1 := listT_len (Ps.take k) (fun x hx => HSd.out x (List.mem_of_mem_take hx))
          have h2 : (Ps.take k).length ≤ 64 := by rw [List.length_take]; omega
          omega
        generalize pd Ps k = x at *
        have hx31 : (nmL' x).length ≤ 31 := by unfold nmL'; simpa using HSn.out.nm
        have HNmS : Hid (x.name = S (nmL' x)) := (S_of _).symm
        rw [HNmS.out] at c0
        have HBl : Hid (Below wr.heap.size wr (wr.alloc (.cells #[.string (S (nmL' x)), .int .i64 x.p.args, .int .i64 x.p.reads, .int .i64 x.p.writes, .int .i64 x.p.locals, .slice x.ao x.n x.cap] 87))) := (Below.refl _ _).alloc (Nat.le_refl _) _
        have HX1 : Hid (RBox (wr.alloc (.cells #[.string (S (nmL' x)), .int .i64 x.p.args, .int .i64 x.p.reads, .int .i64 x.p.writes, .int .i64 x.p.locals, .slice x.ao x.n x.cap] 87)) wr.heap.size x) := by have := RBox.new wr x; rw [HNmS.out] at this; exact this
        have HE1 := HE.out.kept HBl.out
        have HE1' : Hid (OwnB (wr.alloc (.cells #[.string (S (nmL' x)), .int .i64 x.p.args, .int .i64 x.p.reads, .int .i64 x.p.writes, .int .i64 x.p.locals, .slice x.ao x.n x.cap] 87)) w.heap.size (.slice a l c) (nb (listT (Ps.take k)))) := HE1
        have HB1 : Hid (Below w.heap.size w (wr.alloc (.cells #[.string (S (nmL' x)), .int .i64 x.p.args, .int .i64 x.p.reads, .int .i64 x.p.writes, .int .i64 x.p.locals, .slice x.ao x.n x.cap] 87))) := HB.out.trans (HBl.out.mono HB.out.size)
        clear HE1 HE HB
        go_upto_region 8 with fail
        clear c0 c1 c2 c3 c4 c5
        generalize wr.alloc (.cells #[.string (S (nmL' x)), .int .i64 x.p.args, .int .i64 x.p.reads, .int .i64 x.p.writes, .int .i64 x.p.locals, .slice x.ao x.n x.cap] 87) = w2 at *
        generalize wr.heap.size = B2 at *
        obtain ⟨x0, x1, x2, x3, x4, x5⟩ := HX1.out.cells
        rw [HNmS.out] at x0
        go_wp2_with fail
        refine (listProc_any w2 (nmL' x) x.p x.ao x.n x.cap x.L HSn.out.nin hx31 ⟨HOk.out.ks.kept HB1.out, HSn.out.kin, HSn.out.jmp, HSn.out.big⟩ HOk.out.len (HV.out.kept HB1.out)).mono ?_
        rintro e w3 ⟨v3, rfl, ho3, hb3⟩
        have HLen : Hid ((linesX x).length ≤ 515 ∧ ∀ l ∈ linesX x, l.length ≤ 150) := ⟨(linesX_len HSn.out).2, (linesX_len HSn.out).1⟩
        have HTx : Hid (textX x = joinL (linesX x)) := rfl
        have ho3' : OwnS w3 w2.heap.size v3 (tv (linesX x)) := ho3
        obtain ⟨a3, c3', hv3⟩ := ho3'.opn
        rw [tv_length] at hv3
        generalize linesX x = M at *
        obtain ⟨ml, hml⟩ : ∃ ml, ml = M.length := ⟨_, rfl⟩
        rw [← hml] at hv3
        subst hv3
        have HMl : Hid (ml = M.length) := hml
        have hml2 : ml ≤ 515 := by rw [hml]; exact HLen.out.1
        have HS3 : Hid (OwnS w3 w2.heap.size (.slice a3 ml c3') (tv M)) := ho3'
        have HE3 : Hid (OwnB w3 w.heap.size (.slice a l c) (nb (listT (Ps.take k) ++ joinL (M.take 0)))) := by
          have := HE1'.out.kept hb3
          rw [List.take_zero]; show OwnB w3 w.heap.size _ _; simpa [joinL] using this
        have HB3 : Hid (Below w.heap.size w w3) := HB1.out.trans (hb3.mono HB1.out.size)
        clear ho3 ho3' hb3 hml HE1' HB1 HX1 x0 x1 x2 x3 x4 x5 HBl HNmS
        generalize listT (Ps.take k) = T at *
        go_wp2_with fail
        go_loopw [6, 28] (fun v y wr => ∃ (j l : Nat) (a : Option Addr) (c : Nat), j ≤ ml ∧ v = .slice a l c ∧ y = .int .i64 (j : Int) ∧ Hid (OwnB wr w.heap.size (.slice a l c) (nb (T ++ joinL (M.take j)))) ∧ Hid (OwnS wr w2.heap.size (.slice a3 ml c3') (tv M)) ∧ Hid (Below w.heap.size w wr)) (fun _ y _ => ml - (intOf y).toNat)
        case atStart => exact ⟨0, l, a, c, Nat.zero_le _, rfl, rfl, HE3, HS3, HB3⟩
        case round =>
          clear HE3 HS3 HB3
          obtain ⟨j, l4, a4, c4', hj, rfl, rfl, HE, HS, HB⟩ := hrel
          by_cases hjl : j < ml
          · have hjM : j < M.length := by have := HMl.out; omega
            obtain ⟨g3, rfl, d0⟩ : ∃ g3, a3 = some ⟨g3, 0, none⟩ ∧ wr.cell? ⟨g3, j, none⟩ = some (.string (S (M.getD j []))) := by
              rcases HS.out.shape with ⟨e, h0⟩ | ⟨g3, cp, e, _, _, _, hcs⟩
              · have : M.length = 0 := by rw [← tv_length, h0]; rfl
                omega
              · injection e with e1 e2 e3
                refine ⟨g3, e1, hcs j _ ?_⟩
                simp [tv, List.getD_eq_getElem?_getD, List.getElem?_eq_getElem hjM]
            have HJ : Hid (joinL (M.take (j + 1)) = joinL (M.take j) ++ (M.getD j [] ++ [10])) := joinL_take M j hjM
            have hll : (M.getD j []).length ≤ 150 := by
              have : M.getD j [] ∈ M := by simp [List.getD_eq_getElem?_getD, List.getElem?_eq_getElem hjM]
              exact HLen.out.2 _ this
            have hjt : (joinL (M.take j)).length ≤ 80000 := by
              have h1 := joinL_len (M.take j) (fun l hl => HLen.out.2 l (List.mem_of_mem_take hl))
              have h2 : (M.take j).length ≤ 515 := by rw [List.length_take]; omega
              omega
            generalize M.getD j [] = ln at *
            obtain ⟨X, hX⟩ : ∃ X, X = T ++ joinL (M.take j) := ⟨_, rfl⟩
            have hXl : X.length ≤ 6000000 := by rw [hX, List.length_append]; omega
            rw [← hX] at HE
            have HXe : Hid (T ++ joinL (M.take (j + 1)) = X ++ ln ++ [10]) := by show _ = _; rw [HJ.out, hX]; simp
            have hsz : (S ln).size ≤ 150 := by rw [S_size]; exact hll
            clear hX HJ hjt
            go_wp2_with (first
              | (at_builtin; refine wpList_append_bytes rfl _ _ rfl w.heap.size (.slice a5 l5 c5) (nb (X ++ ln)) rfl (HE5.out.kept ((Below.refl _ _).alloc (Nat.le_refl _) _)) _ 1 1 [10] rfl rfl (OwnB.made (w := w5) (L := [10]) (by decide) (by decide) (Nat.le_refl _)).bytes.1 (by simp) (by rw [nb_len, List.length_append]; simp only [List.length_cons, List.length_nil]; omega) (by have := HB5.out.size; simp only [World.size_alloc]; omega) ?_; intro v6 w6 ho6 hg6)
              | (at_builtin; refine wpList_append_str rfl _ _ rfl w.heap.size (.slice a4 l4 c4') (nb X) rfl HE.out (S ln) rfl (by rw [nb_len]; omega) HB.out.size ?_; intro v5 w5 ho5 hg5; have HS5 : Hid (OwnS w5 w2.heap.size (.slice (some ⟨g3, 0, none⟩) ml c3') (tv M)) := HS.out.grown hg5 (fun q hq e => bs_apart HE.out HS.out q hq e); have HB5 : Hid (Below w.heap.size w w5) := HB.out.trans (below_grown hg5 (fun q hq => (HE.out.2.lt q hq).1) HB.out.size); have HE5' : OwnB w5 w.heap.size v5 (nb (X ++ ln)) := (by rw [nb_append, ← nb_S ln]; exact ho5); obtain ⟨a5, c5, hv5, _, _, _⟩ := HE5'.slice; obtain ⟨l5, hl5⟩ : ∃ l5, l5 = (nb (X ++ ln)).length := ⟨_, rfl⟩; rw [← hl5] at hv5; clear hl5; subst hv5; have HE5 : Hid (OwnB w5 w.heap.size (.slice a5 l5 c5) (nb (X ++ ln))) := HE5'; clear HE5' ho5 hg5))
            have HBl5 : Hid (Below w5.heap.size w5 (w5.alloc (.cells #[.int .u8 10] 5))) := (Below.refl _ _).alloc (Nat.le_refl _) _
            have HE6' : OwnB w6 w.heap.size v6 (nb (T ++ joinL (M.take (j + 1)))) := by rw [HXe.out, nb_append]; exact ho6
            have HS6 : Hid (OwnS w6 w2.heap.size (.slice (some ⟨g3, 0, none⟩) ml c3') (tv M)) := (HS5.out.kept HBl5.out).grown hg6 (fun q hq e => bs_apart HE5.out HS5.out q hq e)
            have HB6 : Hid (Below w.heap.size w w6) := (HB5.out.trans (HBl5.out.mono HB5.out.size)).trans (below_grown hg6 (fun q hq => (HE5.out.2.lt q hq).1) (by have := HB5.out.size; simp only [World.size_alloc]; omega))
            obtain ⟨a6, c6, hv6, _, _, _⟩ := HE6'.slice
            obtain ⟨l6, hl6⟩ : ∃ l6, l6 = (nb (T ++ joinL (M.take (j + 1)))).length := ⟨_, rfl⟩
            rw [← hl6] at hv6
            clear hl6
            subst hv6
            have HE6 : Hid (OwnB w6 w.heap.size (.slice a6 l6 c6) (nb (T ++ joinL (M.take (j + 1))))) := HE6'
            clear HE6' ho6 hg6 HE5 HS5 HB5 HBl5 HE HS HB
            go_wp2_with fail
            go_roundw
            case rel => exact ⟨j + 1, l6, a6, c6, by omega, rfl, by go_num, HE6, HS6, HB6⟩
            case measure => simp [intOf]; omega
          · obtain rfl : j = ml := by omega
            have HEn : Hid (OwnB wr w.heap.size (.slice a4 l4 c4') (nb (listT (Ps.take (k + 1))))) := by
              have := HE.out
              rw [HMl.out, List.take_length] at this
              rw [HT.out, HTx.out]; exact this
            clear HE HS
            go_wp2_with fail
            go_roundw
            case rel => exact ⟨k + 1, l4, a4, c4', by omega, rfl, by go_num, HEn, HB⟩
            case measure => simp [intOf]; omega
      · obtain rfl : k = n := by omega
        have HEf : Hid (OwnB wr w.heap.size (.slice a l c) (nb (listT Ps))) := by have := HE.out; rw [HN.out, List.take_length] at this; exact this
        have hl : l = (listT Ps).length := by rw [← nb_len]; exact HEf.out.bytes.2
        have hcv := string_own HEf.out
        rw [nmS_nb] at hcv
        clear HE
        by_cases h6 : (listT Ps).length ≤ 65536
        · have h6' : ¬ ((65536 : Int) < (l : Int)) := by omega
          have HOT : Hid (outT Ps = listT Ps ∧ outE Ps = 0) := ⟨by rw [HO.out.1, if_pos h6], by rw [HO.out.2, if_pos h6]⟩
          clear hl h6
          go_wp2
          go_ret2
          exact ⟨by rw [HOT.out.1, HOT.out.2]; rfl, HB.out⟩
        · have h6' : (65536 : Int) < (l : Int) := by omega
          have HOT : Hid (outT Ps = [] ∧ outE Ps = 44) := ⟨by rw [HO.out.1, if_neg h6], by rw [HO.out.2, if_neg h6]⟩
          clear hl h6
          go_wp2
          go_ret2
          exact ⟨by rw [HOT.out.1, HOT.out.2]; rfl, HB.out⟩
  · have h0' : ((checkN Ps).2 != 0) = true := by simpa using h0
    have HO : Hid (outT Ps = [] ∧ outE Ps = (checkN Ps).2) := by unfold outT outE; exact ⟨if_neg (fun hh => h0 hh.1), if_pos h0⟩
    generalize hc2 : (checkN Ps).2 = c2 at *
    generalize (checkN Ps).1 = at1 at *
    clear h0
    go_wp2
    go_ret2
    exact ⟨by rw [HO.out.1, HO.out.2]; rfl, HB1.out⟩
end Go.Proofs.YtkmafpfldnapjaaGreatDoor
/-
  works: the example is assembled, and listed as it stands.
-/
namespace Go.Proofs.YtkmafpfldnapjaaGreatDoor
open Go.RowKit Go.Sort

theorem ex_out (a1 a2 : Option Addr) (n1 c1 n2 c2 : Nat) : outT (exPs a1 a2 n1 c1 n2 c2) = exL ∧ outE (exPs a1 a2 n1 c1 n2 c2) = 0 := by
  have h1 : listT (exPs a1 a2 n1 c1 n2 c2) = exL := by kernel_rfl
  unfold outT outE
  rw [h1, ex_check, ex_size]
  exact ⟨by simp, by simp⟩
theorem ex_sz : AsSz exA 22 := ⟨by omega, by decide, by decide, by decide, by decide, rfl, by decide, by decide, by simp [exA], by simp [exA], by simp [exA]⟩
/-- what Assemble makes of the example -/
def ExPost (w : World) (e : Ending) (w' : World) : Prop := ∃ g cap cg cc a2 n1 n2 c2, e = .returned (.tuple #[.slice (some ⟨g, 0, none⟩) 2 cap, .nilIface]) ∧ w'.cell? ⟨g, 0, none⟩ = some (.string (S [109, 111, 118, 101])) ∧ w'.cell? ⟨g, 5, none⟩ = some (.slice (some ⟨cg, 0, none⟩) 14 cc) ∧ w'.cell? ⟨cg, 7, none⟩ = some (.int .i64 6) ∧ LibAt w' (some ⟨g, 0, none⟩) (exPs (some ⟨cg, 0, none⟩) a2 n1 cc n2 c2) ∧ 2 ≤ cap ∧ Go.RowKit.Below w.heap.size w w'
theorem ex_post {w w' : World} {e : Ending} (h : AsmPost w exL e w') : ExPost w e w' := by
  rcases h with ⟨v, E, _, h2, _⟩ | ⟨M, B, line, a, Ps, vl, vn, vm, vj, W3, h1, h2, h3, h4, h5⟩
  · rw [ex_lines] at h2; cases h2
  · rw [ex_lines] at h1
    simp only [Except.ok.injEq] at h1
    subst h1
    obtain ⟨a1, a2, n1, c1, n2, c2, rfl⟩ := ex_ps h2.eq
    rcases h5 with ⟨v, _, h6, _⟩ | ⟨v, _, _, h6, _⟩ | ⟨h6, _, _, h7⟩
    · cases h6
    · rw [ex_check] at h6; exact absurd rfl h6
    · have hA := h2.below h7
      obtain ⟨g, cap, e1, hcap⟩ := own_some hA.lib (by show 0 < 2; omega)
      have e1' : vl = .slice (some ⟨g, 0, none⟩) 2 cap := e1
      subst e1'
      have hx := hA.code ⟨S [109, 111, 118, 101], ⟨1, 2, 2, 0⟩, a1, n1, c1, exC1⟩ (by simp [exPs])
      have hn1 : n1 = 14 := hx.1
      subst hn1
      obtain ⟨cg, cc, e2, _⟩ := own_some hx.2 (by show 0 < 14; omega)
      unfold cdV at e2
      simp only [Value.slice.injEq, true_and] at e2
      obtain ⟨rfl, rfl⟩ := e2
      have hlr : w'.ownsRow M 87 6 (.slice (some ⟨g, 0, none⟩) 2 cap) 2 (prcs (exPs (some ⟨cg, 0, none⟩) a2 14 c1 n2 c2)) := hA.lib
      have hcr : w'.ownsRow M 91 2 (.slice (some ⟨cg, 0, none⟩) 14 c1) 14 (cks exC1) := hx.2
      refine ⟨g, cap, cg, c1, a2, 14, n2, c2, h6, ?_, ?_, ?_, hA.libAt ex_sz, hcap, h4⟩
      · rw [World.ownsRow.cellAt hlr 0 (by omega)]; rfl
      · rw [World.ownsRow.cellAt hlr 5 (by omega)]; rfl
      · rw [World.ownsRow.cellAt hcr 7 (by omega)]; rfl
theorem nw_kw {w : World} (h : NwAt w) : KwAt w := fun i hi => by
  obtain rfl | rfl | rfl | rfl : i = 0 ∨ i = 1 ∨ i = 2 ∨ i = 3 := by omega
  · exact h 0 (by omega)
  · exact h 1 (by omega)
  · exact h 2 (by omega)
  · exact h 3 (by omega)
theorem numL_any (w : World) (x : Int) : Calls Tryz.prog 17 #[.int .i64 x] w fun e w' => e = .returned (.int .i64 x) ∧ w' = w := by
  go_enter Tryz.func17, Tryz.ntmps17
  go_wp2
  go_ret
  exact ⟨rfl, rfl⟩
set_option maxRecDepth 100000 in
theorem example_any (w : World) : Calls Tryz.prog 30 #[] w fun e w' => e = .returned (.string (S exL)) ∧ w' = w := by
  go_enter Tryz.func30, Tryz.ntmps30
  go_wp2
  go_ret
  exact ⟨rfl, rfl⟩
set_option maxRecDepth 100000 in
set_option maxHeartbeats 1000000 in
theorem works_any (w : World) (hv : NumVars w) (hs : Vs w) (he : ErrVar w) (hB : 8 ≤ w.heap.size) :
    Calls Tryz.prog 13 #[] w fun e w' => e = .returned (.bool true) ∧ Go.RowKit.Below w.heap.size w w' := by
  have HEx := hidA (fun w => example_any w)
  have HAs := hidA (assemble_any w exL ex_len hv hs.nm (nw_kw hs.nw) he hB)
  have HVs := hidA hs
  clear hv hs he
  have htx : ∃ tx, tx = S exL := ⟨_, rfl⟩
  obtain ⟨tx, htx⟩ := htx
  have HTx := hidA htx
  rw [← htx] at HEx HAs
  clear htx
  go_enter Tryz.func13, Tryz.ntmps13
  go_wp2_with fail
  refine (HEx.out w).mono ?_
  rintro e w0 ⟨rfl, hw0⟩
  have hw0' := hw0.symm
  subst hw0'
  clear hw0
  go_wp2_with fail
  refine HAs.out.mono ?_
  intro e w1 hp
  obtain ⟨g, cap, cg, cc, a2, n1, n2, c2, rfl, y0, y5, y7, hL, hcap, hb⟩ := ex_post hp
  have HLi := hidA (list_any w1 (some ⟨g, 0, none⟩) 2 cap (exPs (some ⟨cg, 0, none⟩) a2 n1 cc n2 c2) hL rfl hcap (by omega) (HVs.out.kept hb))
  rw [(ex_out _ _ _ _ _ _).1, (ex_out _ _ _ _ _ _).2, ← HTx.out] at HLi
  have HB1 := hidA hb
  have hmv : ((S [109, 111, 118, 101]).toList == [109, 111, 118, 101]) = true := by rw [S_toList]; rfl
  clear hp hL hcap hb HAs
  go_wp2_with fail
  refine HLi.out.mono ?_
  rintro e w2 ⟨rfl, hb2⟩
  have HB2 : Hid (Go.RowKit.Below w.heap.size w w2) := HB1.out.trans (hb2.mono HB1.out.size)
  clear hb2 HLi y0 y5 y7
  go_wp2_with fail
  refine (HEx.out w2).mono ?_
  rintro e w3 ⟨rfl, hw3⟩
  have hw3' := hw3.symm
  subst hw3'
  clear hw3
  go_wp2_with fail
  refine (numL_any w2 0).mono ?_
  rintro e w4 ⟨rfl, hw4⟩
  have hw4' := hw4.symm
  subst hw4'
  clear hw4
  go_wp2_with fail
  go_ret
  exact ⟨rfl, HB2.out⟩
end Go.Proofs.YtkmafpfldnapjaaGreatDoor
/-
  fault: an error's place and number.
-/
namespace Go.Proofs.YtkmafpfldnapjaaGreatDoor
open Go.RowKit Go.Sort

/-- a fault's box -/
def FB (W : World) (b : Nat) (x y z : Value) : Prop := W.heap[b]? = some (.cells #[x, y, z] 24 (0, 0))
theorem load_fault {W : World} {b : Nat} {x y z : Value} (h : FB W b x y z) : (loadVar 24 ⟨b, 0, none⟩).run Tryz.prog W = .ok (.agg #[x, y, z]) W := by
  have q0 : W.cell? ⟨b, 0, none⟩ = some x := by simp [World.cell?, show W.heap[b]? = _ from h]
  have q1 : W.cell? ⟨b, 1, none⟩ = some y := by simp [World.cell?, show W.heap[b]? = _ from h]
  have q2 : W.cell? ⟨b, 2, none⟩ = some z := by simp [World.cell?, show W.heap[b]? = _ from h]
  simp [go_sem, q0, q1, q2]
set_option maxRecDepth 100000 in
theorem faultNil_any (w : World) : Calls Tryz.prog 9 #[.nilIface] w fun e w' => e = .returned (.agg #[.int .i64 0, .int .i64 0, .int .i64 0]) ∧ Go.RowKit.Below w.heap.size w w' := by
  have hF : FB (w.alloc (.cells #[.int .i64 0, .int .i64 0, .int .i64 0] 24)) w.heap.size (.int .i64 0) (.int .i64 0) (.int .i64 0) := heap_alloc_new _ _ rfl
  have hld := load_fault hF
  have HB := hidA (bel_al w (.cells #[.int .i64 0, .int .i64 0, .int .i64 0] 24))
  clear hF
  go_enter Tryz.func9, Tryz.ntmps9
  go_wp2
  refine bodyPost_ret (v := .agg #[.int .i64 0, .int .i64 0, .int .i64 0]) ?_ rfl ?_
  · simp [results, Tryz.results9, asAddr, hld]
  · exact ⟨rfl, HB.out⟩
/-- what errors.As leaves where it hits: the target has it -/
theorem hit_facts (W : World) (o1 o2 o3 o4 : Obj) (t : Nat) (T : TypeId) (u v : Value) (h : W.heap[t]? = some (.cells #[u] T (0, 0))) : (∀ k, k < W.heap.size → k ≠ t → (((((W.alloc o1).alloc o2).alloc o3).alloc o4).setCell ⟨t, 0, none⟩ v).heap[k]? = W.heap[k]?) ∧ (((((W.alloc o1).alloc o2).alloc o3).alloc o4).setCell ⟨t, 0, none⟩ v).heap[t]? = some (.cells #[v] T (0, 0)) ∧ (∀ C, C ≤ t → Go.RowKit.Below C W (((((W.alloc o1).alloc o2).alloc o3).alloc o4).setCell ⟨t, 0, none⟩ v)) := by
  have ht := (Array.getElem?_eq_some_iff.1 h).1
  have old : ∀ k, k < W.heap.size → ((((W.alloc o1).alloc o2).alloc o3).alloc o4).heap[k]? = W.heap[k]? := fun k hk => (heap_alloc_old _ _ (by simp only [World.size_alloc]; omega)).trans ((heap_alloc_old _ _ (by simp only [World.size_alloc]; omega)).trans ((heap_alloc_old _ _ (by simp only [World.size_alloc]; omega)).trans (heap_alloc_old _ _ hk)))
  refine ⟨fun k hk hne => (heap_setCell_other _ _ _ _ hne).trans (old k hk), heap_setCell_same _ t 0 _ _ _ ((old t ht).trans h), fun C hC => ?_⟩
  exact (((((Below.refl C W).alloc (by omega) _).alloc (by simp only [World.size_alloc]; omega) _).alloc (by simp only [World.size_alloc]; omega) _).alloc (by simp only [World.size_alloc]; omega) _).trans (below_setC _ _ hC)
theorem ErrVar.bel {W W' : World} (h : ErrVar W) {C : Nat} (hb : Go.RowKit.Below C W W') (hC : 8 ≤ C) : ErrVar W' := by
  have h2 := hb.block 0 (by omega)
  unfold ErrVar at h ⊢
  simp only [World.cell?] at h ⊢
  rw [h2]
  exact h
set_option maxRecDepth 100000 in
set_option maxHeartbeats 1000000 in
theorem fault_any (w : World) (v : Value) (line col : Nat) (n : Int) (h : ErrAt w v line col n) (he : ErrVar w) (hB : 8 ≤ w.heap.size) : Calls Tryz.prog 9 #[v] w fun e w' => e = .returned (.agg #[.int .i64 (line : Int), .int .i64 (col : Int), .int .i64 n]) ∧ Go.RowKit.Below w.heap.size w w' := by
  obtain ⟨b, rfl, hb⟩ := h
  have hbl := (Array.getElem?_eq_some_iff.1 hb).1
  obtain ⟨f, hf⟩ : ∃ f, f = w.heap.size := ⟨_, rfl⟩
  obtain ⟨W3, hW3⟩ : ∃ W3, W3 = ((w.alloc (.cells #[.int .i64 0, .int .i64 0, .int .i64 0] 24)).alloc (.cells #[.pointer none] 78)).alloc (.cells #[.int .i64 0] 38) := ⟨_, rfl⟩
  have hB3 : Go.RowKit.Below f w W3 := by rw [hW3, hf]; exact (((Below.refl _ w).alloc (Nat.le_refl _) _).alloc (by simp only [World.size_alloc]; omega) _).alloc (by simp only [World.size_alloc]; omega) _
  have hs3 : W3.heap.size = f + 3 := by rw [hW3, hf]; simp only [World.size_alloc]
  have hf3 : FB W3 f (.int .i64 0) (.int .i64 0) (.int .i64 0) := by rw [hW3, hf]; exact (heap_alloc_old _ _ (by simp only [World.size_alloc]; omega)).trans ((heap_alloc_old _ _ (by simp only [World.size_alloc]; omega)).trans (heap_alloc_new _ _ rfl))
  have hp3 : W3.heap[f + 1]? = some (.cells #[.pointer none] 78 (0, 0)) := by rw [hW3, hf]; exact (heap_alloc_old _ _ (by simp only [World.size_alloc]; omega)).trans (heap_alloc_new _ _ (by simp only [World.size_alloc]))
  have hn3 : W3.heap[f + 2]? = some (.cells #[.int .i64 0] 38 (0, 0)) := by rw [hW3, hf]; exact heap_alloc_new _ _ (by simp only [World.size_alloc])
  have hb3 := (hB3.block b (by omega)).trans hb
  have hE3 := he.bel hB3 (by omega)
  have HA1 := hidA (as_hitP ⟨b, 0, none⟩ ⟨f + 1, 0, none⟩ (.pointer none) W3 hE3 (by unfold World.cell?; rw [hp3]; rfl) (frozen_of_row _ _ 0 _ _ hp3))
  have HF3 := hidA (And.intro hB3 (And.intro hs3 (And.intro hf3 (And.intro hp3 (And.intro hn3 (And.intro hb3 hE3))))))
  have HB' : Hid (8 ≤ f ∧ b < f) := ⟨by omega, by omega⟩
  clear he hb hB3 hs3 hf3 hp3 hn3 hb3 hE3
  go_enter Tryz.func9, Tryz.ntmps9
  go_upto_region 5 with fail
  rw [← hW3]
  clear hW3
  rw [← hf]
  rw [show f + 1 + 1 = f + 2 from rfl]
  have HFq := hidA hf
  clear hbl hB hf
  go_wp2_with fail
  refine HA1.out.mono ?_
  rintro e w4 ⟨rfl, hw4⟩
  obtain ⟨hB3, hs3, hf3, hp3, hn3, hb3, hE3⟩ := HF3.out
  obtain ⟨k1, k2, k3⟩ := hit_facts W3 (.cells #[.pointer (some ⟨f + 1, 0, none⟩)] 80) (.cells #[.pointer (some ⟨8, 80, none⟩), .pointer (some ⟨W3.heap.size, 0, none⟩), .int .u64 150] 126) (.cells #[.pointer (some ⟨8, 80, none⟩), .pointer (some ⟨W3.heap.size, 0, none⟩), .int .u64 150] 126) (.cells #[.pointer (some ⟨b, 0, none⟩)] 78) (f + 1) _ _ (.pointer (some ⟨b, 0, none⟩)) hp3
  rw [← hw4] at k1 k2 k3
  have hbf := HB'.out
  have hB4 := hB3.trans (k3 f (by omega))
  have hs4 : f + 3 ≤ w4.heap.size := by have := (k3 f (by omega)).size; omega
  have hf4 : FB w4 f (.int .i64 0) (.int .i64 0) (.int .i64 0) := (k1 f (by omega) (by omega)).trans hf3
  have hn4 := (k1 (f + 2) (by omega) (by omega)).trans hn3
  have hb4 := (k1 b (by omega) (by omega)).trans hb3
  have hE4 := hE3.bel (k3 f (by omega)) hbf.1
  have HA2 := hidA (as_hitN n ⟨f + 2, 0, none⟩ (.int .i64 0) w4 hE4 (by unfold World.cell?; rw [hn4]; rfl) (frozen_of_row _ _ 0 _ _ hn4))
  have y0 : w4.cell? ⟨f + 1, 0, none⟩ = some (.pointer (some ⟨b, 0, none⟩)) := by unfold World.cell?; rw [k2]; rfl
  have y1 : w4.cell? ⟨b, 2, none⟩ = some (.iface 38 (.int .i64 n)) := by unfold World.cell?; rw [hb4]; rfl
  have HF4 := hidA (And.intro hB4 (And.intro hs4 (And.intro hf4 (And.intro k2 (And.intro hn4 hb4)))))
  clear hB3 hs3 hf3 hp3 hn3 hb3 hE3 k1 k2 k3 hw4 hbf hB4 hs4 hf4 hn4 hb4 hE4 HA1 HF3
  go_wp2_with fail
  refine HA2.out.mono ?_
  rintro e w5 ⟨rfl, hw5⟩
  obtain ⟨hB4, hs4, hf4, hp4, hn4, hb4⟩ := HF4.out
  obtain ⟨k1, k2, k3⟩ := hit_facts w4 (.cells #[.pointer (some ⟨f + 2, 0, none⟩)] 85) (.cells #[.pointer (some ⟨8, 85, none⟩), .pointer (some ⟨w4.heap.size, 0, none⟩), .int .u64 150] 126) (.cells #[.pointer (some ⟨8, 85, none⟩), .pointer (some ⟨w4.heap.size, 0, none⟩), .int .u64 150] 126) (.cells #[.int .i64 n] 38) (f + 2) _ _ (.int .i64 n) hn4
  rw [← hw5] at k1 k2 k3
  have hbf := HB'.out
  have hf5 : FB w5 f (.int .i64 0) (.int .i64 0) (.int .i64 0) := (k1 f (by omega) (by omega)).trans hf4
  have hp5 := (k1 (f + 1) (by omega) (by omega)).trans hp4
  have hb5 := (k1 b (by omega) (by omega)).trans hb4
  have hB5 := hB4.trans (k3 f (by omega))
  have HS5 : Hid (∀ W' : World, (∀ k, k < w5.heap.size → k ≠ f → W'.heap[k]? = w5.heap[k]?) → W'.cell? ⟨f + 1, 0, none⟩ = some (.pointer (some ⟨b, 0, none⟩)) ∧ W'.cell? ⟨b, 0, none⟩ = some (.int .i64 (line : Int)) ∧ W'.cell? ⟨b, 1, none⟩ = some (.int .i64 (col : Int)) ∧ W'.cell? ⟨f + 2, 0, none⟩ = some (.int .i64 n)) := fun W' hk => by
    have q1 := (hk (f + 1) (Array.getElem?_eq_some_iff.1 hp5).1 (by omega)).trans hp5
    have q2 := (hk b (Array.getElem?_eq_some_iff.1 hb5).1 (by omega)).trans hb5
    have q3 := (hk (f + 2) (Array.getElem?_eq_some_iff.1 k2).1 (by omega)).trans k2
    refine ⟨?_, ?_, ?_, ?_⟩ <;> simp [World.cell?, q1, q2, q3]
  have hS6 := HS5.out (((w5.drew.setCell ⟨f, 0, none⟩ (.int .i64 (line : Int))).setCell ⟨f, 1, none⟩ (.int .i64 (col : Int))).setCell ⟨f, 2, none⟩ (.int .i64 n)) (fun k _ hne => (heap_setCell_other _ _ _ _ hne).trans ((heap_setCell_other _ _ _ _ hne).trans (heap_setCell_other _ _ _ _ hne)))
  have hbd : ∀ k, k < w5.heap.size → k ≠ f → w5.drew.heap[k]? = w5.heap[k]? := fun _ _ _ => rfl
  have hf7 : FB ((((w5.setCell ⟨f, 0, none⟩ (.int .i64 (line : Int))).setCell ⟨f, 1, none⟩ (.int .i64 (col : Int))).setCell ⟨f, 2, none⟩ (.int .i64 n)).drew) f (.int .i64 (line : Int)) (.int .i64 (col : Int)) (.int .i64 n) := heap_setCell_same _ f 2 _ _ _ (heap_setCell_same _ f 1 _ _ _ (heap_setCell_same w5 f 0 _ _ _ hf5))
  have hld := load_fault hf7
  have hs5 : f ≤ w5.heap.size := by have := (k3 f (by omega)).size; omega
  have HB6 : Hid (Go.RowKit.Below w.heap.size w (((w5.drew.setCell ⟨f, 0, none⟩ (.int .i64 (line : Int))).setCell ⟨f, 1, none⟩ (.int .i64 (col : Int))).setCell ⟨f, 2, none⟩ (.int .i64 n))) := by
    show Go.RowKit.Below _ _ _
    rw [← HFq.out]
    exact (((hB5.trans ((bel_drewN w5 1).mono hs5)).trans (below_setC _ _ (Nat.le_refl _))).trans (below_setC _ _ (Nat.le_refl _))).trans (below_setC _ _ (Nat.le_refl _))
  have g0 := frozen_of_row w5 f 0 _ _ hf5
  have g1 := frozen_of_row w5 f 1 _ _ hf5
  have g2 := frozen_of_row w5 f 2 _ _ hf5
  have c0 : w5.cell? ⟨f, 0, none⟩ = some (.int .i64 0) := by unfold World.cell?; rw [show w5.heap[f]? = _ from hf5]; rfl
  have c1 : w5.cell? ⟨f, 1, none⟩ = some (.int .i64 0) := by unfold World.cell?; rw [show w5.heap[f]? = _ from hf5]; rfl
  have c2 : w5.cell? ⟨f, 2, none⟩ = some (.int .i64 0) := by unfold World.cell?; rw [show w5.heap[f]? = _ from hf5]; rfl
  clear hB4 hs4 hf4 hp4 hn4 hb4 k1 k2 k3 hw5 hbf hf5 hp5 hb5 hB5 hf7 hs5 y0 y1 HA2 HF4
  go_upto_region 6 with fail
  refine wp_region_held_drew (S := fun w' => w'.cell? ⟨f + 1, 0, none⟩ = some (.pointer (some ⟨b, 0, none⟩)) ∧ w'.cell? ⟨b, 0, none⟩ = some (.int .i64 (line : Int)) ∧ w'.cell? ⟨b, 1, none⟩ = some (.int .i64 (col : Int)) ∧ w'.cell? ⟨f + 2, 0, none⟩ = some (.int .i64 n)) (by kernel_rfl) ?_ (fun hHeld => ?_)
  · exact HS5.out _ hbd
  refine wpAnyH_take (i := 0) (v := .pointer (some ⟨b, 0, none⟩)) rfl (by kernel_rfl) (by kernel_rfl) (by kernel_rfl) (fun _ _ _ h => h) (Or.inl ⟨by rfl, by intro w hSw; (try dsimp only at hSw); go_simp⟩) (by assumption) ?_
  refine wpAnyH_take (i := 1) (v := .pointer (some ⟨b, 0, none⟩)) rfl (by kernel_rfl) (by kernel_rfl) (by kernel_rfl) (fun _ _ _ h => h) (Or.inl ⟨by rfl, by intro w hSw; (try dsimp only at hSw); go_simp⟩) (by assumption) ?_
  refine wpAnyH_take (i := 2) (v := .pointer (some ⟨b, 0, none⟩)) rfl (by kernel_rfl) (by kernel_rfl) (by kernel_rfl) (fun _ _ _ h => h) (Or.inl ⟨by rfl, by intro w hSw; (try dsimp only at hSw); go_simp⟩) (by assumption) ?_
  refine wpAnyH_take (i := 3) (v := .int .i64 (line : Int)) rfl (by kernel_rfl) (by kernel_rfl) (by kernel_rfl) (fun _ _ _ h => h) (Or.inl ⟨by rfl, by intro w hSw; (try dsimp only at hSw); go_simp⟩) (by assumption) ?_
  refine wpAnyH_take (i := 4) (v := .pointer (some ⟨b, 0, none⟩)) rfl (by kernel_rfl) (by kernel_rfl) (by kernel_rfl) (fun _ _ _ h => h) (Or.inl ⟨by rfl, by intro w hSw; (try dsimp only at hSw); go_simp⟩) (by assumption) ?_
  refine wpAnyH_take (i := 5) (v := .pointer (some ⟨b, 0, none⟩)) rfl (by kernel_rfl) (by kernel_rfl) (by kernel_rfl) (fun _ _ _ h => h) (Or.inl ⟨by rfl, by intro w hSw; (try dsimp only at hSw); go_simp⟩) (by assumption) ?_
  refine wpAnyH_take (i := 6) (v := .pointer (some ⟨b, 1, none⟩)) rfl (by kernel_rfl) (by kernel_rfl) (by kernel_rfl) (fun _ _ _ h => h) (Or.inl ⟨by rfl, by intro w hSw; (try dsimp only at hSw); go_simp⟩) (by assumption) ?_
  refine wpAnyH_take (i := 7) (v := .int .i64 (col : Int)) rfl (by kernel_rfl) (by kernel_rfl) (by kernel_rfl) (fun _ _ _ h => h) (Or.inl ⟨by rfl, by intro w hSw; (try dsimp only at hSw); go_simp⟩) (by assumption) ?_
  refine wpAnyH_take (i := 8) (v := .int .i64 n) rfl (by kernel_rfl) (by kernel_rfl) (by kernel_rfl) (fun _ _ _ h => h) (Or.inl ⟨by rfl, by intro w hSw; (try dsimp only at hSw); go_simp⟩) (by assumption) ?_
  refine wpAnyH_take (i := 9) (v := .agg #[.int .i64 (line : Int), .int .i64 (col : Int), .int .i64 n]) rfl (by kernel_rfl) (by kernel_rfl) (by kernel_rfl) (fun _ _ _ h => h) (Or.inl ⟨by rfl, by intro w hSw; (try dsimp only at hSw); go_simp⟩) (by assumption) ?_
  refine wpAnyH_ready (rs := [10]) (by kernel_rfl) (by simp) ?_
  refine AllReadyH.cons rfl (fun K hK => ?_) ?_
  · go_simp
    refine hK.out _ _ (by exact hS6) (fun hHeld => ?_)
    clear hK K
    refine wpAnyH_done (by kernel_rfl) ?_ _
    go_wp2_with fail
    refine bodyPost_ret (v := .agg #[.int .i64 (line : Int), .int .i64 (col : Int), .int .i64 n]) ?_ rfl ?_
    · simp [results, Tryz.results9, asAddr, hld]
    · exact ⟨rfl, HB6.out⟩
  exact AllReadyH.nil
end Go.Proofs.YtkmafpfldnapjaaGreatDoor
