import Derived.Test.YtfkijdlggdgfhaaJSFil
import Derived.Test.YtfkijdlggdgfhaaJLawSRoomH
/-
  begun.
-/
namespace Go.Proofs.Ytfkijdlggdgfhaa
open Go.RowKit Go.Sort

/-- the first version -/
abbrev v1 (b : Nat) : Vr := xV b 0 (9, -9) 1 0
def BegPost (w : World) (e : Ending) (w' : World) : Prop :=
  ∃ B S n b g, e = .returned (.tuple #[ptr B, .bool true]) ∧ 1 ≤ n ∧ n ≤ 256 ∧ Below w.heap.size w w' ∧ WS w.heap.size (fun _ => False) w' B S n (.slice (some ⟨g, 0, none⟩) 1 1) [v1 b] [v1 b] 1 1 2
set_option maxRecDepth 100000 in
set_option maxHeartbeats 1000000 in
theorem begun_any (w : World) (pp : Int) : Calls Try.prog 7 #[.int .i64 pp] w fun e w' => BegPost w e w' := by
  obtain ⟨n, hn, hn1, hn2⟩ : ∃ n : Nat, wrap64 (1 + wrap64 ((IntKind.u64.wrap pp).tmod 256)) = (n : Int) ∧ 1 ≤ n ∧ n ≤ 256 := by
    obtain ⟨r, h1, h2⟩ := umod pp 256 (by omega)
    exact ⟨r + 1, by rw [h1]; unfold wrap64; omega, by omega, by omega⟩
  have HN : Hid (wrap64 (1 + wrap64 ((IntKind.u64.wrap pp).tmod 256)) = (n : Int)) := hn
  clear hn
  go_enter Try.func7, Try.ntmps7
  go_wp2_with fail
  rw [HN.out]
  refine (new_st w.heap.size (fun _ => False) w n 65536 hn1 hn2 (by omega) (Nat.le_refl _) (fun k h => h.elim)).mono ?_
  rintro e w1 ⟨S, rfl, hst, hb⟩
  have HS1 : Hid (ST w.heap.size (fun _ => False) w1 S n 65536 0 []) := hst
  have HB1 : Hid (Below w.heap.size w w1) := hb
  clear hst hb
  have HIns := insert_in w.heap.size (fun _ => False) w1 S n 65536 0 [] HS1.out (fun k h => h.elim) HB1.out.size 9 (-9) 1 0 ⟨by unfold In64; omega, by unfold In64; omega⟩ (by unfold In64; omega) (by unfold In64; omega) (by omega) 0 (by decide)
  go_wp2_with fail
  refine HIns.mono ?_
  clear HIns
  rintro e w2 ⟨hkp, ⟨h0, _⟩ | ⟨_, rfl, b, hst2⟩⟩
  · exact absurd rfl h0
  have HS2 : Hid (ST w.heap.size (fun _ => False) w2 S n 65536 1 [v1 b]) := hst2
  have HB2 : Hid (Below w.heap.size w w2) := HB1.out.trans (hkp.below HB1.out.size)
  clear hst2 hkp HS1 HB1
  have hlv := live_st _ _ w2 S n 65536 _ [v1 b] HS2.out
  have HLv := hidC hlv
  have HNw := hidC (newest_st _ _ w2 S n 65536 _ [v1 b] HS2.out 9 (-9) ⟨by unfold In64; omega, by unfold In64; omega⟩)
  clear hlv
  go_wp2_with fail
  refine HLv.out.mono ?_
  rintro e w3 ⟨rfl, hw3⟩
  have hw3' := hw3.symm
  subst hw3'
  clear hw3 HLv
  go_wp2_with fail
  refine HNw.out.mono ?_
  rintro e w4 ⟨rfl, hb4⟩
  have HS4 : Hid (ST w.heap.size (fun _ => False) w4 S n 65536 1 [v1 b]) := HS2.out.kept hb4
  have HB4 : Hid (Below w.heap.size w w4) := HB2.out.trans (hb4.mono HB2.out.size)
  clear hb4 HNw HS2 HB2
  have hnn : newestN (9, -9) [v1 b] = 1 := rfl
  rw [hnn]
  clear hnn
  have HW : Hid (Below w4.heap.size w4 ((w4.alloc (.cells #[.int .i64 1, .int .i64 9, .int .i64 (-9), .int .i64 1, .int .i64 0, .bool false, .bool false, .int .i64 0] 50)).alloc (.cells #[ptr S, .slice (some ⟨w4.heap.size, 0, none⟩) 1 1, .int .i64 1, .int .i64 2] 36))) := ((Below.refl _ _).alloc (Nat.le_refl _) _).alloc (by simp) _
  go_wp2
  go_ret2
  have hz := HB4.out.size
  refine ⟨w4.heap.size + 1, S, n, b, w4.heap.size, rfl, hn1, hn2, HB4.out.trans (HW.out.mono hz), heap_alloc_new _ _ (by simp), ?_, ?_, by omega, id, fun _ _ h => h, fun k h => h.elim, ?_⟩
  · refine (HS4.out.frame (fun k hk => ?_)).kept HW.out
    rcases hk with h | h | h
    · exact h.elim
    · exact .inr (by omega)
    · have e : w4.heap.size = k := by simpa [Value.ownBlock] using h
      exact .inr (by omega)
  · refine ⟨rfl, .inr ⟨w4.heap.size, 1, _, rfl, hz, (heap_alloc_old _ _ (by simp)).trans (heap_alloc_new _ _ rfl), Nat.le_refl _, by unfold maxLen; omega, rfl, rfl⟩⟩
  · have := HW.out.size; omega
end Go.Proofs.Ytfkijdlggdgfhaa
/-
  A WRITE, AND WHAT IT LEAVES.
-/
namespace Go.Proofs.Ytfkijdlggdgfhaa
open Go.RowKit Go.Sort

/-- a write -/
structure Wq where
  k : K
  la : Int
  ix : Int
  fl : Bool
  ci : Bool
  cv : Int
  dr : Int
def wqc (x : Wq) : Array Value := #[.int .i64 x.k.1, .int .i64 x.k.2, .int .i64 x.la, .int .i64 x.ix, .bool x.fl, .bool x.ci, .int .i64 x.cv, .int .i64 x.dr]
structure WqIn (x : Wq) : Prop where
  k : KIn x.k
  la : In64 x.la
  ix : In64 x.ix
  cv : In64 x.cv
  dr : In64 x.dr
/-- which one is taken out -/
def dropI (dr : Int) (ws : List Vr) : Nat := (dr % (ws.length : Int)).toNat
def dropL (dr : Int) (ws : List Vr) : List Vr := if 0 ≤ dr ∧ ws ≠ [] then ws.take (dropI dr ws) ++ ws.drop (dropI dr ws + 1) else ws
theorem dropL_no {dr : Int} {ws : List Vr} (h : ¬ (0 ≤ dr ∧ ws ≠ [])) : dropL dr ws = ws := if_neg h
theorem dropL_yes {dr : Int} {ws : List Vr} (h : 0 ≤ dr ∧ ws ≠ []) : dropL dr ws = ws.take (dropI dr ws) ++ ws.drop (dropI dr ws + 1) := if_pos h
theorem dropI_lt {dr : Int} {ws : List Vr} (h : ws ≠ []) : dropI dr ws < ws.length ∧ dr % (ws.length : Int) = (dropI dr ws : Int) := by
  have hl : 0 < ws.length := List.length_pos_iff.2 h
  have h1 := Int.emod_nonneg dr (b := (ws.length : Int)) (by omega)
  have h2 := Int.emod_lt_of_pos dr (show (0 : Int) < ws.length by omega)
  unfold dropI
  omega
theorem dropL_sub (dr : Int) (ws : List Vr) : (dropL dr ws).Sublist ws := by
  unfold dropL
  split
  · have := List.Sublist.append (List.Sublist.refl (ws.take (dropI dr ws))) (List.drop_sublist_drop_left ws (show dropI dr ws ≤ dropI dr ws + 1 by omega))
    rwa [List.take_append_drop] at this
  · exact List.Sublist.refl _
theorem ownL_slice {w : World} {base : Nat} {v : Value} {ws : List Vr} (h : OwnL w base v ws) : ∃ ao c, v = .slice ao ws.length c := by
  rcases h.shape with ⟨rfl, rfl⟩ | ⟨g, cap, cur, rfl, _⟩
  · exact ⟨none, 0, rfl⟩
  · exact ⟨_, cap, rfl⟩
theorem lds_at {ws : List Vr} {i j : Nat} (hi : i < ws.length) (hj : j < 8) : (lds ws)[i * 8 + j]? = (ldc ws[i])[j]? := by
  have e : ws = ws.take i ++ ws[i] :: ws.drop (i + 1) := by rw [← List.drop_eq_getElem_cons hi, List.take_append_drop]
  have hl : (lds (ws.take i)).length = i * 8 := by rw [lds_len, List.length_take]; omega
  have e2 : lds ws = lds (ws.take i) ++ (ldc ws[i] ++ lds (ws.drop (i + 1))) := by
    have h1 : lds ws = lds (ws.take i ++ ws[i] :: ws.drop (i + 1)) := congrArg lds e
    rw [h1, lds_app, show ws[i] :: ws.drop (i + 1) = [ws[i]] ++ ws.drop (i + 1) from rfl, lds_app, lds_one]
  rw [e2, List.getElem?_append_right (by omega), hl, show i * 8 + j - i * 8 = j by omega, List.getElem?_append_left (by rw [ldc_len]; exact hj)]
theorem lds_take {ws : List Vr} {i j : Nat} {u : Value} (h : (lds (ws.take i))[j]? = some u) : (lds ws)[j]? = some u := by
  have e : lds ws = lds (ws.take i) ++ lds (ws.drop i) := by rw [← lds_app, List.take_append_drop]
  rw [e, List.getElem?_append_left (List.getElem?_eq_some_iff.1 h).1, h]
theorem lds_drop {ws : List Vr} {i j : Nat} {u : Value} (hi : i ≤ ws.length) (h : (lds (ws.drop i))[j]? = some u) : (lds ws)[i * 8 + j]? = some u := by
  have e : lds ws = lds (ws.take i) ++ lds (ws.drop i) := by rw [← lds_app, List.take_append_drop]
  have hl : (lds (ws.take i)).length = i * 8 := by rw [lds_len, List.length_take]; omega
  rw [e, List.getElem?_append_right (by omega), hl, show i * 8 + j - i * 8 = j by omega, h]
theorem Kp.heap {n0 : Nat} {F : Nat → Prop} {w w' : World} (h : Kp n0 F w w') {k : Nat} {o : Obj} (hF : F k) (hk : w.heap[k]? = some o) : w'.heap[k]? = some o := (h.block k (blk_lt hk) (.inr hF)).trans hk
/-- behind the drop -/
structure M1 (n0 : Nat) (F : Nat → Prop) (W0 wx : World) (B S P : Nat) (ao : Option Addr) (c : Nat) (pre us : List Vr) (last batch : Int) : Prop where
  ws : WS n0 F wx B S P (.slice ao us.length c) (pre ++ us) us last last batch
  kp : Kp n0 F W0 wx
/-- what a write leaves -/
structure WrNew (n0 : Nat) (F : Nat → Prop) (w' : World) (B S P : Nat) (av : Value) (pre us : List Vr) (last batch ba' : Int) (x : Wq) (v : Vr) : Prop where
  ws : WS n0 F w' B S P av (pre ++ (us ++ [v])) (us ++ [v]) (last + 1) (last + 1) ba'
  n : v.n = last + 1
  k : v.k = x.k
  ba : v.ba = ba'
  lt : batch < ba' ∧ ba' ≤ batch + 100
  ix : 0 ≤ v.ix ∧ v.ix < 64
  key : isKey x.k = true
def WrPost (n0 : Nat) (F : Nat → Prop) (w : World) (B S P : Nat) (pre ws : List Vr) (last batch : Int) (x : Wq) (e : Ending) (w' : World) : Prop :=
  e = .returned (.bool true) ∧ Kp n0 F w w' ∧ ∃ av, (WS n0 F w' B S P av (pre ++ dropL x.dr ws) (dropL x.dr ws) last last batch) ∨ ∃ v ba', WrNew n0 F w' B S P av pre (dropL x.dr ws) last batch ba' x v
/-- the i-th of its list is taken out of the store -/
theorem WS.remove {n0 : Nat} {F : Nat → Prop} {w : World} {B S P : Nat} {av : Value} {pre ws : List Vr} {lb last batch : Int} (h : WS n0 F w B S P av (pre ++ ws) ws lb last batch) {i : Nat} (hi : i < ws.length) (nn : Int) (hnn : nn = ws[i].n) :
    Calls Try.prog 20 #[ptr S, .int .i64 nn] w fun e w' => e = .returned (.int .i64 0) ∧ WS n0 F w' B S P av (pre ++ (ws.take i ++ ws.drop (i + 1))) ws lb last batch ∧ Kp n0 F w w' := by
  have hm : ws[i] ∈ pre ++ ws := List.mem_append.2 (.inr (List.getElem_mem hi))
  have hnl := h.st.nl ws[i] hm
  have hlt := h.st.lt
  refine (remove_st _ _ w S P 65536 last (pre ++ ws) h.st nn (by rw [hnn]; unfold In64; omega)).mono ?_
  rintro e w' ⟨hkp, ⟨h0, _⟩ | ⟨A, v, C, h1, h2, rfl, hst⟩⟩
  · exact absurd hnn.symm (fv_none h0 ws[i] hm)
  · have hnd := h.st.nd
    have hv : v = ws[i] := by
      have a := fv_of hnd hm
      have b := fv_of hnd (e := v) (by rw [h1]; simp)
      rw [h2, hnn, a] at b
      exact (Option.some.inj b).symm
    have hsp : pre ++ ws = (pre ++ ws.take i) ++ ws[i] :: ws.drop (i + 1) := by rw [List.append_assoc, ← List.drop_eq_getElem_cons hi, List.take_append_drop]
    rw [hv] at h1
    have hnd2 := hnd
    rw [hsp] at hnd2
    obtain ⟨e1, e2⟩ := split_uniqV hnd2 (hsp.symm.trans h1)
    rw [e1, e2, List.append_assoc] at hst
    exact ⟨rfl, h.kp hkp hst, hkp.mono (fun k _ hF => .inl hF)⟩
theorem WS.numAt {n0 : Nat} {F : Nat → Prop} {w : World} {B S P : Nat} {g m c : Nat} {vs ws : List Vr} {lb last batch : Int} (h : WS n0 F w B S P (.slice (some ⟨g, 0, none⟩) m c) vs ws lb last batch) {i : Nat} {nn : Int} (hi : ∃ hi : i < ws.length, nn = ws[i].n) : w.cell? ⟨g, i * 8, none⟩ = some (.int .i64 nn) := by
  obtain ⟨hi, rfl⟩ := hi
  rcases h.al.shape with ⟨h0, _⟩ | ⟨g', cap, cur, h1, _, _, _, h5⟩
  · cases h0
  · simp only [Value.slice.injEq, Option.some.injEq, Addr.mk.injEq] at h1
    obtain ⟨⟨rfl, _⟩, _⟩ := h1
    have h2 := lds_at (ws := ws) (i := i) (j := 0) hi (by omega)
    rw [Nat.add_zero] at h2
    exact h5 _ _ h2
theorem WS.cellAt {n0 : Nat} {F : Nat → Prop} {w : World} {B S P : Nat} {g m c : Nat} {vs ws : List Vr} {lb last batch : Int} (h : WS n0 F w B S P (.slice (some ⟨g, 0, none⟩) m c) vs ws lb last batch) {j : Nat} {u : Value} (hu : (lds ws)[j]? = some u) : w.cell? ⟨g, j, none⟩ = some u := by
  rcases h.al.shape with ⟨h0, _⟩ | ⟨g', cap, cur, h1, _, _, _, h5⟩
  · cases h0
  · simp only [Value.slice.injEq, Option.some.injEq, Addr.mk.injEq] at h1
    obtain ⟨⟨rfl, _⟩, _⟩ := h1
    exact h5 _ _ hu
theorem wr_same {n0 : Nat} {F : Nat → Prop} {w W0 W : World} {B S P X : Nat} {av : Value} {pre ws us : List Vr} {last batch : Int} {x : Wq} (h : WS n0 (fun k => F k ∨ k = X) W B S P av (pre ++ us) us last last batch) (hk : Kp n0 (fun k => F k ∨ k = X) W0 W) (hb : Below w.heap.size w W0) (hus : us = dropL x.dr ws) : WrPost n0 F w B S P pre ws last batch x (.returned (.bool true)) W := by
  subst hus
  exact ⟨rfl, (Kp.ofBelow hb).trans (hk.mono (fun k _ hF => .inl hF)), av, .inl (h.unbox (fun k hF => .inl hF))⟩
section
variable {n0 : Nat} {F : Nat → Prop} {w : World} {B S P : Nat} {av : Value} {vs ws : List Vr} {lb last batch : Int}
theorem WS.insert (h : WS n0 F w B S P av vs ws lb last batch) (k1 k2 ba ix : Int) (hk : KIn (k1, k2)) (hkey : isKey (k1, k2) = true) (hba : 1 ≤ ba ∧ ba ≤ 1099511627776) (hix : 0 ≤ ix ∧ ix < 64) (hl0 : 0 ≤ last ∧ last + 1 ≤ 1000000000000000) (hc : vs.length < 65536) (hv : ∀ v ∈ vs, v.ba < ba) :
    Calls Try.prog 19 #[ptr S, .agg #[.int .i64 k1, .int .i64 k2], .int .i64 ba, .int .i64 ix] w fun e w' => e = .returned (.tuple #[.int .i64 (last + 1), .int .i64 0]) ∧ (∃ b, WS n0 F w' B S P av (vs ++ [xV b last (k1, k2) ba ix]) ws lb (last + 1) batch) ∧ Kp n0 F w w' := by
  refine (insert_in _ _ w S P 65536 last vs h.st (fun k hk => h.lt hk) h.n0l k1 k2 ba ix hk (by unfold In64; omega) (by unfold In64; omega) hl0 0 (insE_free hkey hba hix (by omega) (fun v hv' _ => hv v hv'))).mono ?_
  rintro e w' ⟨hkp, ⟨h0, _⟩ | ⟨_, rfl, b, hst⟩⟩
  · exact absurd rfl h0
  · exact ⟨rfl, ⟨b, h.kp hkp hst⟩, hkp.mono (fun k _ hF => .inl hF)⟩
theorem WS.fill (h : WS n0 F w B S P av vs ws lb last batch) (n : Int) (ci : Bool) (cv : Int) (hn : In64 n) (hcv : In64 cv) {v : Vr} (hf : fv vs n = some v) (hfl : v.fl = false) :
    Calls Try.prog 22 #[ptr S, .int .i64 n, .agg #[.bool ci, .int .i64 cv]] w fun e w' => e = .returned (.int .i64 0) ∧ WS n0 F w' B S P av (vs.map (updF n ci cv)) ws lb last batch ∧ Kp n0 F w w' := by
  have hE : filE (fv vs n) = 0 := by rw [hf]; simp [filE, hfl]
  have hL : filL vs n ci cv = vs.map (updF n ci cv) := by unfold filL; rw [hE]; rfl
  refine (fill_st _ _ w S P 65536 last vs h.st n ci cv hn hcv).mono ?_
  rintro e w' ⟨rfl, hkp, hst⟩
  rw [hL] at hst
  exact ⟨by rw [hE], h.kp hkp hst, hkp.mono (fun k _ hF => .inl hF)⟩
/-- one more in its list -/
theorem WS.push (h : WS n0 F w B S P av vs ws lb last batch) (v : Vr) (hn : ws.length + 1 ≤ 1000000000) {W : World} (hb : Below w.heap.size w W) {A : Nat} (hA : W.heap[A]? = some (.cells (ldc v).toArray 50 (0, 0))) (ty : TypeId) :
    ∃ v' w', (Builtin.append_ #[34, 34] ty #[av, .slice (some ⟨A, 0, none⟩) 1 1]).run Try.prog W = .ok v' w' ∧ (∃ a c, v' = .slice a (ws.length + 1) c) ∧ w'.cell? ⟨B, 1, none⟩ = some av ∧ w'.frozen? ⟨B, 1, none⟩ = false ∧
      WS n0 F (w'.setCell ⟨B, 1, none⟩ v') B S P v' vs (ws ++ [v]) lb last batch ∧ Kp n0 F w (w'.setCell ⟨B, 1, none⟩ v') := by
  have hw := h.kept hb
  obtain ⟨v', w', hr, ho, hcase⟩ := run_append_C elL (w := W) ty n0 av ws.length (lds ws) hw.al ⟨A, 0, none⟩ 1 1 (ldc v) rfl (fun j u hu => by
    rw [addr_add, Nat.zero_add, World.cell?, hA]
    simpa using hu) (by have := lds_cells [v]; rwa [lds_one] at this) hn hw.n0l
  have hO : OwnL w' n0 v' (ws ++ [v]) := by
    unfold OwnL
    rw [List.length_append, lds_app, lds_one]
    exact ho
  have hBl := blk_lt hw.bx
  -- what turns
  have hT : (∀ k, k < W.heap.size → av.ownBlock ≠ some k → w'.heap[k]? = W.heap[k]?) ∧ W.heap.size ≤ w'.heap.size ∧ w'.os = W.os ∧ w'.tape = W.tape ∧ w'.output = W.output ∧ (∀ k, v'.ownBlock = some k → av.ownBlock = some k ∨ W.heap.size ≤ k) := by
    rcases hcase with ⟨g, cap, e1, e2, hg⟩ | ⟨h2, hg⟩
    · refine ⟨fun k hk hn => hg.block k hk (fun e => hn (by rw [e1]; exact e.symm)), hg.size, hg.os, hg.tape, hg.output, fun k hk => .inl ?_⟩
      rw [e2] at hk
      rw [e1]
      exact hk
    · exact ⟨fun k hk _ => hg.block k hk (by simp), hg.size, hg.os, hg.tape, hg.output, fun k hk => .inr (World.ownsRow.lt h2 k hk).1⟩
  obtain ⟨t1, t2, t3, t4, t5, t6⟩ := hT
  have hB' : w'.heap[B]? = some (.cells #[ptr S, av, .int .i64 lb, .int .i64 batch] 36 (0, 0)) := (t1 B hBl hw.Ba).trans hw.bx
  have hs : ∀ k, k ≠ B → (w'.setCell ⟨B, 1, none⟩ v').heap[k]? = w'.heap[k]? := fun k hk => heap_setCell_other _ _ _ _ hk
  have hvB : v'.ownBlock ≠ some B := fun e => by
    rcases t6 B e with h1 | h1
    · exact hw.Ba h1
    · omega
  refine ⟨v', w', hr, ?_, by rw [World.cell?, hB']; rfl, frozen_of_row _ _ _ _ _ hB', ⟨blk_set _ hB', ?_, hO.same (fun g hg => hs g (fun e => hvB (e ▸ hg))), h.Bn, h.FB, fun k hk e => ?_, fun k hF => by have := hw.Fl k hF; simp; omega, by have := hw.n0l; simp; omega⟩, ?_⟩
  · have := ownL_slice hO
    simpa using this
  · have q1 : ST n0 (fun k => F k ∨ k = B ∨ av.ownBlock = some k ∨ v'.ownBlock = some k) W S P 65536 last vs := hw.st.frame (fun k hk => by
      rcases hk with h1 | h1 | h1 | h1
      · exact .inl (.inl h1)
      · exact .inl (.inr (.inl h1))
      · exact .inl (.inr (.inr h1))
      · rcases t6 k h1 with h2 | h2
        · exact .inl (.inr (.inr h2))
        · exact .inr h2)
    have q2 := q1.off (w' := w'.setCell ⟨B, 1, none⟩ v') (fun k hk hn => (hs k (fun e => hn (.inr (.inl e)))).trans (t1 k hk (fun e => hn (.inr (.inr (.inl e))))))
    exact q2.frame (fun k hk => by
      rcases hk with h1 | h1 | h1
      · exact .inl (.inl h1)
      · exact .inl (.inr (.inl h1))
      · exact .inl (.inr (.inr (.inr h1))))
  · rcases t6 k hk with h1 | h1
    · exact hw.Fa k h1 e
    · have := hw.Fl k e; omega
  · have hz := hb.size
    refine ⟨t3.trans hb.os, t4.trans hb.tape, t5.trans hb.output, by simp; omega, fun k hk hF => ?_⟩
    have hkB : k ≠ B := fun e => by
      rcases hF with h1 | h1
      · have := h.Bn; omega
      · exact h.FB (e ▸ h1)
    have hka : av.ownBlock ≠ some k := fun e => by
      rcases hF with h1 | h1
      · have := (h.al.lt k e).1; omega
      · exact h.Fa k e h1
    exact (hs k hkB).trans ((t1 k (by omega) hka).trans (hb.block k hk))
end
theorem map_upd_last {n : Int} {ci : Bool} {cv : Int} {A : List Vr} {v : Vr} (hA : ∀ u ∈ A, u.n ≠ n) (hv : v.n = n) : (A ++ [v]).map (updF n ci cv) = A ++ [fillV v ci cv] := by
  rw [List.map_append]
  congr 1
  · refine (List.map_congr_left (fun u hu => ?_)).trans (List.map_id A)
    unfold updF
    rw [if_neg (hA u hu)]
    rfl
  · simp [updF, hv]
/-- the version lies in a box, and in the store -/
def M3 (n0 : Nat) (F : Nat → Prop) (W0 wx : World) (B S P X Q LB : Nat) (ao : Option Addr) (p c : Nat) (pre us : List Vr) (last nb : Int) (k : K) (iy : Int) : Prop :=
  ∃ v, WS n0 (fun j => ((F j ∨ j = X) ∨ j = Q) ∨ j = LB) wx B S P (.slice ao p c) (pre ++ us ++ [v]) us (last + 1) (last + 1) nb ∧ wx.heap[LB]? = some (.cells (ldc v).toArray 50 (0, 0)) ∧ Kp n0 (fun j => F j ∨ j = X) W0 wx ∧ v.n = last + 1 ∧ v.k = k ∧ v.ba = nb ∧ v.ix = iy
/-- behind the append -/
def M4 (n0 : Nat) (F : Nat → Prop) (W0 : World) (B S P X : Nat) (ao : Option Addr) (p c : Nat) (pre us : List Vr) (last nb : Int) (v : Vr) (v' : Value) (w' : World) : Prop :=
  (∃ a e, v' = .slice a (p + 1) e) ∧ w'.cell? ⟨B, 1, none⟩ = some (.slice ao p c) ∧ w'.frozen? ⟨B, 1, none⟩ = false ∧ WS n0 F (w'.setCell ⟨B, 1, none⟩ v') B S P v' (pre ++ (us ++ [v])) (us ++ [v]) (last + 1) (last + 1) nb ∧ Kp n0 (fun j => F j ∨ j = X) W0 (w'.setCell ⟨B, 1, none⟩ v')
end Go.Proofs.Ytfkijdlggdgfhaa
