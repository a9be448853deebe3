/-
  THE WALK OF THE SHELF's split.
-/
import Derived.Test.YtnjgaibcpcpmcabSMid
namespace Go.Proofs.Ytnjgaibcpcpmcab
open Go.RowKit Go.Sort

def nth (xs : List Value) (i : Nat) : Value := xs.getD i (.slice none 0 0)
theorem nth_get {xs : List Value} {i : Nat} (h : i < xs.length) : xs[i]? = some (nth xs i) := by simp [nth, List.getD_eq_getElem?_getD, List.getElem?_eq_getElem h]
theorem OwnR.listsAt {w : World} {base n c : Nat} {a : Option Addr} {xs : List Value} (h : OwnR w base (.slice a n c) xs) : n = xs.length ∧ ListsAt w a xs.length (nth xs) := by
  rcases h.shape with ⟨e, rfl⟩ | ⟨g, cap, e, _, _, _, hc⟩
  · cases e; exact ⟨rfl, .inl rfl⟩
  · cases e; exact ⟨rfl, .inr ⟨g, 0, rfl, fun i hi => by rw [Nat.zero_add]; exact hc i _ (nth_get hi)⟩⟩
theorem Fam.holds {w : World} {base : Nat} {v : Value} {es : List Value} {Cs : Nat → List K} (h : Fam w base v es Cs) : Holds w es.length (nth es) Cs := fun i hi => by
  have h2 := h.mem i _ (nth_get hi)
  obtain ⟨a, m, c, e⟩ := own_lst h2
  exact ⟨a, m, c, e, own_lst2 (e ▸ h2)⟩

theorem LI.sz {w wr : World} {base SB : Nat} {X : Xt} {O : Nat → Option Nat} {lv wv : Value} {xs es1 ys : List Value} {Ms Ms' C1 : Nat → List K} {kx ky : Nat} (h : LI w wr base SB X O lv wv xs es1 ys Ms Ms' C1 kx ky) : base ≤ wr.heap.size := Nat.le_trans h.sh.sb.1 (Nat.le_of_lt h.sh.lt)
theorem LI.copied {w wr w8 w9 : World} {base SB : Nat} {X : Xt} {O : Nat → Option Nat} {lv wv v e : Value} {xs es1 ys : List Value} {Ms Ms' C1 : Nat → List K} {k : Nat} {o : Obj} (h : LI w wr base SB X O lv wv xs es1 ys Ms Ms' C1 (k + 1) k) (hb : Below wr.heap.size wr w8) (ho : OwnK w8 wr.heap.size e (C1 k)) (h9 : OwnR w9 base v (ys ++ [e])) (hg : (w8.alloc o).grownBy w9 wv.ownBlock) (hat : v.ownBlock = wv.ownBlock ∨ v.ownBlock = some (w8.alloc o).heap.size) :
    ∃ O6 lv' wv' ys' Ms'', LI w (w9.setCell ⟨SB, 1, none⟩ v) base SB X O6 lv' wv' xs es1 ys' Ms Ms'' C1 (k + 1) (k + 1) := by
  have h2 := (h.below hb).below (below_alloc _ o)
  obtain ⟨O', h3⟩ := h2.stepY (e := e) ((ho.kept (below_alloc _ o)).mono h.sz) (fun b hb => ⟨h.sh.fresh b (ho.lt b hb).1, fun p x hp hx e2 => by have h4 := (ho.lt b hb).1; have h5 := ((h.r p x hp hx).1.lt b e2).2; omega⟩) h9 hg hat
  exact ⟨O', lv, v, _, Ms', h3⟩
theorem rows_shape3 {w : World} {base : Nat} {gv : Value} {es : List Value} (h : OwnR w base gv es) : ∃ a n c, gv = .slice a n c := by
  obtain ⟨a, c, e⟩ := rows_shape h
  exact ⟨a, _, c, e⟩
theorem cell_newS (w : World) (a : Addr) (x v : Value) (t : TypeId) : ((w.setCell a x).alloc (.cells #[v] t)).cell? ⟨w.heap.size, 0, none⟩ = some v := by
  have h := cell_new1 (w.setCell a x) v t
  rwa [show (w.setCell a x).heap.size = w.heap.size from by simp [World.setCell]] at h

set_option maxHeartbeats 8000000 in
set_option maxRecDepth 100000 in
theorem splitM_any (w : World) (base SB nx nu : Nat) (O : Nat → Option Nat) (h : ShP w base SB O nx nu) (kind t r parts : Int) (a1 aA aB : Option Addr) (c1 nA cA nB cB : Nat) (A : List K) (h1 : Lst w a1 nA c1 A) (hA : Lst w aA nA cA A) (hin : ∀ k ∈ A, In64 k.2) (hn : nA ≤ 2097152) (hnx : nx ≤ 1073741824) (hnu : nu ≤ 2097152) (hb : base ≤ w.heap.size) :
    Calls Try.prog 36 #[.pointer (some ⟨SB, 0, none⟩), .slice a1 nA c1, .agg #[.int .i64 kind, .slice aA nA cA, .slice aB nB cB, .int .i64 t, .int .i64 r, .int .i64 parts]] w fun e w' => e = .returned (.bool true) ∧
      Hid (∃ O', ShP w' base SB O' (nx + 256) (nu + 1) ∧ ∀ b, b < w.heap.size → O b = none → O' b = none ∧ w'.heap[b]? = w.heap[b]?) ∧ Below base w w' := by
  obtain ⟨X, lv, wv, xs, ys, Ms, Q, us, zs, es, fs, Cs, hS, hO, hL, hE, hlen, hx, hu, hM⟩ := h
  have HS : Hid (Sh w base SB X O lv wv xs ys Ms ∧ Out w base O Q X.ov X.sv us zs es fs Cs) := ⟨hS, hO⟩
  have HL : Hid (Link us.length es Cs xs Ms ∧ Even us zs es fs ∧ ys.length = xs.length ∧ ∀ j, j < xs.length → (Ms j).length ≤ 2097152) := ⟨hL, hE, hlen, hM⟩
  have HA : Hid (Lst w a1 nA c1 A ∧ Lst w aA nA cA A ∧ ∀ k ∈ A, In64 k.2) := ⟨h1, hA, hin⟩
  have HZl : Hid (zs.length = us.length) := hE.1
  clear hS hO hL hE hlen hM h1 hA hin
  go_enter Try.func36, Try.ntmps36
  go_wp2_with fail
  have HX0 : Hid (OBox (w.alloc (.cells #[.int .i64 kind, .slice aA nA cA, .slice aB nB cB, .int .i64 t, .int .i64 r, .int .i64 parts] 49)) w.heap.size #[.int .i64 kind, .slice aA nA cA, .slice aB nB cB, .int .i64 t, .int .i64 r, .int .i64 parts]) := heap_alloc_new _ _ rfl
  have HB0 : Hid (Below w.heap.size w (w.alloc (.cells #[.int .i64 kind, .slice aA nA cA, .slice aB nB cB, .int .i64 t, .int .i64 r, .int .i64 parts] 49))) := below_alloc _ _
  generalize w.alloc (.cells #[.int .i64 kind, .slice aA nA cA, .slice aB nB cB, .int .i64 t, .int .i64 r, .int .i64 parts] 49) = W0 at *
  obtain ⟨b0, hb0⟩ : ∃ b, b = w.heap.size := ⟨_, rfl⟩
  rw [← hb0] at HX0 ⊢
  clear hb0
  have HP : Hid (lenP A parts ≤ 256 ∧ ∀ p, (partL A parts.toNat p).length ≤ 2097152) := ⟨lenP_le _ _, fun p => Nat.le_trans (partL_len _ _ _) (by have := HA.out.2.1.len; omega)⟩
  have HRf : Hid (∀ W1, Below w.heap.size w W1 → Calls Try.prog 54 #[.slice aA nA cA, .int .i64 parts] W1 fun e w' => ∃ a c, ∃ es : List Value, e = .returned (.tuple #[.slice a (lenP A parts) c, .int .i64 (codeP A parts)]) ∧ Hid (es.length = lenP A parts ∧ Fam w' W1.heap.size (.slice a (lenP A parts) c) es (partL A parts.toNat)) ∧ Below W1.heap.size W1 w') := fun W1 hW => refSplit_r W1 aA nA cA parts A (HA.out.2.1.kept hW) HA.out.2.2 (by omega)
  refine (split_r W0 a1 nA c1 parts A (HA.out.1.kept HB0.out) HA.out.2.2 (by omega)).mono ?_
  generalize lenP A parts = N at *
  generalize codeP A parts = cc at *
  generalize partL A parts.toNat = C1 at *
  rintro e W1 ⟨al, cl, es1, rfl, hf1, hb1⟩
  have HF1 : Hid (es1.length = N ∧ Fam W1 W0.heap.size (.slice al N cl) es1 C1 ∧ Below W0.heap.size W0 W1 ∧ OBox W1 b0 #[.int .i64 kind, .slice aA nA cA, .slice aB nB cB, .int .i64 t, .int .i64 r, .int .i64 parts]) := ⟨hf1.out.1, hf1.out.2, hb1, HX0.out.below hb1⟩
  have k1 := HF1.out.2.2.2.cell 1 _ rfl
  have k5 := HF1.out.2.2.2.cell 5 _ rfl
  clear hf1 hb1 HX0
  go_wp2_with fail
  refine (HRf.out W1 (HB0.out.trans (HF1.out.2.2.1.mono HB0.out.size))).mono ?_
  rintro e W2 ⟨am, cm, fs1, rfl, hf2, hb2⟩
  have HF2 : Hid (fs1.length = N ∧ Fam W2 W1.heap.size (.slice am N cm) fs1 C1 ∧ Below W1.heap.size W1 W2 ∧ Fam W2 W0.heap.size (.slice al N cl) es1 C1) := ⟨hf2.out.1, hf2.out.2, hb2, HF1.out.2.1.kept hb2⟩
  clear hf2 hb2 HRf k1 k5
  go_wp2_with fail
  refine (num_any' _ _).mono ?_
  rintro e w' ⟨rfl, rfl⟩
  go_wp2_with fail
  refine (num_any' _ _).mono ?_
  rintro e w' ⟨rfl, rfl⟩
  go_wp2_with fail
  have hN := HP.out.1
  have HSL : Hid (Calls Try.prog 38 #[.slice al N cl, .slice am N cm] W2 fun e w' => e = .returned (.bool true) ∧ ∃ q, w' = W2.drewN q) := by
    have e1 := HF1.out.1
    have e2 := HF2.out.1
    have g1 := HF2.out.2.2.2.row.listsAt.2
    have g2 := HF2.out.2.1.row.listsAt.2
    have g3 := HF2.out.2.2.2.holds
    have g4 := HF2.out.2.1.holds
    rw [e1] at g1 g3
    rw [e2] at g2 g4
    exact sameLists_any W2 al am N cl cm (nth es1) (nth fs1) C1 g1 g2 g3 g4 (fun i _ => Nat.le_trans (HP.out.2 i) (by omega)) (by omega)
  refine HSL.out.mono ?_
  rintro e w' ⟨rfl, q, rfl⟩
  have H3 : Hid (S3 w (W2.drewN q) base SB X O Q lv wv (.slice al N cl) (.slice am N cm) xs ys us zs es1 fs1 Ms C1 es fs Cs W0.heap.size W1.heap.size) := S3.start HS.out.1 HS.out.2 hb HB0.out HF1.out.2.2.1 HF2.out.2.2.1 ⟨rfl, rfl, rfl, Nat.le_refl _, fun _ _ => rfl⟩ HF1.out.2.1 HF2.out.2.1
  have HEl : Hid (es1.length = N ∧ fs1.length = N) := ⟨HF1.out.1, HF2.out.1⟩
  clear HSL HF2 HS HA HB0
  generalize W2.drewN q = W3 at *
  obtain ⟨q0, q1, q2, q3, -⟩ := shelf_cell H3.out.sh.cell
  have hb3 : base ≤ W3.heap.size := by have h1 := H3.out.bel.size; omega
  have H3a : Hid (OwnRR (W3.alloc (.cells #[.slice al N cl] 23)) base X.ov us) := H3.out.out.o1.kept (below_alloc _ _)
  have H3r : Hid (∀ w4, (W3.alloc (.cells #[.slice al N cl] 23)).grownBy w4 X.ov.ownBlock → w4.heap[SB]? = some (.cells #[lv, wv, X.ov, X.sv] 47 (0, 0))) := fun w4 hg => (H3.out.sh.below (below_alloc _ _)).row3 (fun b hb => (H3.out.out.o2 b hb).1) hg
  go_wp2_with (first
    | (at_builtin; refine wpList_append_rr rfl _ _ rfl base X.sv zs rfl (H4.out.s1.kept (below_alloc _ _)) _ (.slice am N cm) rfl (cell_newS _ _ _ _ _) rfl (by have h1 := HZl.out; omega) (by have h1 := H4.out.siz; simp only [World.size_alloc]; omega) ?_; intro v5 w5 h5 hg5 hat5; obtain ⟨-, -, -, s3, sf⟩ := shelf_cell (H4.out.row _ _ hg5); have sf3 := sf 3; obtain ⟨a5, c5, hv5⟩ := rr_shape h5
       have H5 : Hid (∃ X5 O5 Q5, S5 w W3 (w5.setCell ⟨SB, 3, none⟩ v5) base SB O lv wv (.slice al N cl) (.slice am N cm) v4' v5 xs ys us zs es1 fs1 Ms C1 es fs Cs X5 O5 Q5) := S3.five H3.out H4.out h5 hg5 hat5
       clear h5 hg5 hat5 sf; rw [List.length_append, List.length_singleton] at hv5; subst hv5)
    | (at_builtin; refine wpList_append_rr rfl _ _ rfl base X.ov us rfl H3a.out _ (.slice al N cl) rfl (cell_new1 _ _ _) rfl (by omega) (by simp only [World.size_alloc]; omega) ?_; intro v4 w4 h4 hg4 hat4; obtain ⟨-, -, s2, -, sf⟩ := shelf_cell (H3r.out _ hg4); have sf2 := sf 2
       obtain ⟨v4', hv4'⟩ : ∃ x, x = v4 := ⟨_, rfl⟩
       have H4 : Hid (S4 w W3 (w4.setCell ⟨SB, 2, none⟩ v4) base SB O lv wv (.slice al N cl) (.slice am N cm) v4' X.sv xs ys us zs es1 fs1 Ms es fs Cs) := by rw [hv4']; exact S3.four H3.out h4 hg4 hat4
       obtain ⟨-, -, -, t3, -⟩ := shelf_cell H4.out.cell
       obtain ⟨a4, c4, hv4⟩ := rr_shape h4
       clear h4 hg4 hat4 sf hv4'; rw [List.length_append, List.length_singleton] at hv4; subst hv4))
  obtain ⟨X5, O5, Q5, h5⟩ := H5.out
  obtain ⟨v5', hv5'⟩ : ∃ x, x = (.slice a5 (zs.length + 1) c5 : Value) := ⟨_, rfl⟩
  rw [← hv5'] at h5
  have H5s : Hid (S5 w W3 (w5.setCell ⟨SB, 3, none⟩ (.slice a5 (zs.length + 1) c5)) base SB O lv wv (.slice al N cl) (.slice am N cm) v4' v5' xs ys us zs es1 fs1 Ms C1 es fs Cs X5 O5 Q5) := by rw [hv5'] at h5 ⊢; exact h5
  clear h5 H5 hv5' H4 s2 sf2 t3 s3 sf3 q0 q1 q2 q3 H3a H3r hb3
  generalize w5.setCell ⟨SB, 3, none⟩ (.slice a5 (zs.length + 1) c5) = W5 at *
  have HI0 : Hid (LI w W5 base SB (X6 W5 O5 es1 v4' v5') (lab W5 O5 (E1 es1)) lv wv xs es1 ys Ms Ms C1 0 0) := S3.loop H3.out H5s.out HL.out.2.2.1
  go_loopw [12] (fun x wr => ∃ k : Nat, k ≤ N ∧ x = .int .i64 (k : Int) ∧ Hid (∃ O6 lv' wv' ys' Ms', LI w wr base SB (X6 W5 O5 es1 v4' v5') O6 lv' wv' xs es1 ys' Ms Ms' C1 k k)) (fun x _ => N - (intOf x).toNat)
  case atStart => exact ⟨0, Nat.zero_le _, rfl, ⟨_, _, _, _, _, HI0.out⟩⟩
  case round =>
    clear HI0
    obtain ⟨k, hk, rfl, HI⟩ := hrel
    obtain ⟨O6, lv', wv', ys', Ms', hi6⟩ := HI.out
    have HI6 : Hid (LI w wr base SB (X6 W5 O5 es1 v4' v5') O6 lv' wv' xs es1 ys' Ms Ms' C1 k k) := hi6
    clear HI
    by_cases hlt : k < N
    · have hke : k < es1.length := by have h1 := HEl.out.1; omega
      have hkf : k < fs1.length := by have h1 := HEl.out.2; omega
      rcases (LI.rows H5s.out hi6).1.listsAt.2 with hz | ⟨bl, ol, e, hc⟩
      · omega
      subst e
      have ck := hc k hke
      have HEk : Hid (es1[k]? = some (nth es1 k)) := nth_get hke
      obtain ⟨ae, ne, ce, hev⟩ := own_lst (hi6.r k _ (Nat.le_refl _) (nth_get hke)).1
      rw [hev] at ck HEk
      obtain ⟨p0, p1⟩ := hi6.sh.cells
      have p0a : (wr.alloc (.cells #[.slice ae ne ce] 29)).cell? ⟨SB, 0, none⟩ = some lv' := Grew.cell ((Grew.refl _).alloc _) p0
      have HDr : Hid (Below wr.heap.size wr wr.drew) := ⟨rfl, rfl, rfl, Nat.le_refl _, fun _ _ => rfl⟩
      have HNk : Hid (k ≤ N ∧ N ≤ 256 ∧ xs.length ≤ 1073741824) := ⟨hk, hN, by omega⟩
      have hkN : (k : Int) < (N : Int) := by omega
      clear hi6 hc hev hke
      go_wp2_with fail
      go_cut [] (fun wx => Hid (∃ O7 lv7 Ms7, LI w wx base SB (X6 W5 O5 es1 v4' v5') O7 lv7 wv' xs es1 ys' Ms Ms7 C1 (k + 1) k))
      case first =>
        go_region_law (refine step_append_rows rfl _ _ rfl base lv' (xs ++ es1.take k) rfl ((HI6.out.below HDr.out).below (below_alloc _ _)).sh.lists _ (.slice ae ne ce) rfl (cell_new1 _ _ _) rfl (by have h1 := HNk.out; simp only [List.length_append, List.length_take]; omega) ((HI6.out.below HDr.out).below (below_alloc _ _)).sz ?_; intro v9 w9 h9 hg9 hat9; obtain ⟨⟨r0, r1⟩, f0, f1⟩ := ((HI6.out.below HDr.out).below (below_alloc _ _)).sh.row1 hg9; obtain ⟨a9, n9, c9, hv9⟩ := rows_shape3 h9; have HS9 : Hid (∃ O7 lv7 Ms7, LI w (w9.setCell ⟨SB, 0, none⟩ v9) base SB (X6 W5 O5 es1 v4' v5') O7 lv7 wv' xs es1 ys' Ms Ms7 C1 (k + 1) k) := (by obtain ⟨O7, Ms7, h7⟩ := ((HI6.out.below HDr.out).below (below_alloc _ _)).stepX HEk.out H3.out.fl.ap h9 hg9 hat9; exact ⟨O7, _, Ms7, h7⟩); clear h9 hg9 hat9; subst hv9)
        all_goals go_wp2_with fail
        all_goals go_meet
        all_goals exact HS9
      case rest =>
        obtain ⟨O7, lv7, Ms7, h7⟩ := hcut.out
        have HI7 : Hid (LI w wc base SB (X6 W5 O5 es1 v4' v5') O7 lv7 wv' xs es1 ys' Ms Ms7 C1 (k + 1) k) := h7
        clear hcut p0 p1 p0a ck HDr HI6 HEk
        rcases (LI.rows H5s.out h7).2.1.listsAt.2 with hz | ⟨bm, om, e, hc⟩
        · omega
        subst e
        have ck := hc k hkf
        have hof := (LI.rows H5s.out h7).2.2 k _ (nth_get hkf)
        obtain ⟨af, nf, cf, hfv⟩ := own_lst hof
        rw [hfv] at ck hof
        have HLH : Hid (∀ W, Below wc.heap.size wc W → Lst W af nf cf (C1 k)) := fun W hW => own_lst2 (hof.kept hW)
        have hnf : nf ≤ 2097152 := by have h1 := (own_lst2 hof).len; have h2 := HP.out.2 k; omega
        have HDr : Hid (Below wc.heap.size wc wc.drew) := ⟨rfl, rfl, rfl, Nat.le_refl _, fun _ _ => rfl⟩
        obtain ⟨p0, p1⟩ := h7.sh.cells
        clear h7 hc hfv hof hkf
        go_wp2_with fail
        go_region_law (first | (refine step_append_rows rfl _ _ rfl base wv' ys' rfl ((HI7.out.below HB8.out).below (below_alloc _ _)).sh.want _ (.slice a8 n8 c8) rfl (cell_new1 _ _ _) rfl (by have h1 := HNk.out; have h2 := HI7.out.yl; omega) ((HI7.out.below HB8.out).below (below_alloc _ _)).sz ?_; intro v9 w9 h9 hg9 hat9; obtain ⟨⟨r0, r1⟩, f0, f1⟩ := ((HI7.out.below HB8.out).below (below_alloc _ _)).sh.row2 hg9; obtain ⟨a9, n9, c9, hv9⟩ := rows_shape3 h9; have HS9 : Hid (∃ O6 lv' wv' ys' Ms', LI w (w9.setCell ⟨SB, 1, none⟩ v9) base SB (X6 W5 O5 es1 v4' v5') O6 lv' wv' xs es1 ys' Ms Ms' C1 (k + 1) (k + 1)) := (HI7.out.copied HB8.out HO8.out h9 hg9 hat9); clear h9 hg9 hat9; subst hv9) | (go_simp; (go_at_call 37; go_loud (refine (copiedK_any _ af cf nf (C1 k) (HLH.out _ HDr.out).len (HLH.out _ HDr.out).at_ (HLH.out _ HDr.out).nil (by omega)).mono ?_; rintro e w8 ⟨v8, rfl, ho8, hb8⟩; have HB8 : Hid (Below wc.heap.size wc w8) := HDr.out.trans hb8; have HO8 : Hid (OwnK w8 wc.heap.size v8 (C1 k)) := ho8; clear ho8 hb8; obtain ⟨a8, n8, c8, hv8⟩ := own_lst HO8.out; subst hv8; obtain ⟨q0, q1⟩ := (HI7.out.below HB8.out).sh.cells; have q1a : (w8.alloc (.cells #[.slice a8 n8 c8] 29)).cell? ⟨SB, 1, none⟩ = some wv' := Grew.cell ((Grew.refl _).alloc _) q1))))
        all_goals go_wp2
        all_goals go_roundw
        all_goals first | exact ⟨k + 1, by omega, by go_num, HS9⟩ | (simp [intOf]; omega)
    · obtain rfl : k = N := by omega
      go_wp2
      go_ret
      exact ⟨rfl, LI.fin H3.out H5s.out HI6.out HEl.out.1.symm HEl.out.2.symm hN HL.out.1 HL.out.2.1 hx hu HL.out.2.2.2 HP.out.2, HI6.out.bel⟩

end Go.Proofs.Ytnjgaibcpcpmcab
