import Derived.Test.YtkjmeknaedapjaaDoorJ28
import Derived.Test.YtkjmeknaedapjaaDoorJ24
/-
  THE WALK OF apart.
-/
namespace Go.Proofs.YtkjmeknaedapjaaDoor
open Go.RowKit Go.Sort

/-- the first k pieces are written over -/
def zk (Ps : List Pr) (k : Nat) : Nat → List K := fun j => if j < k then row1 j (pd Ps j).n else (pd Ps j).L
theorem P1.congr {w W : World} {base : Nat} {Ps : List Pr} {Z Z' : Nat → List K} (h : P1 w W base Ps Z) (e : ∀ i, i < Ps.length → Z i = Z' i) : P1 w W base Ps Z' := ⟨fun i hi => by rw [← e i hi]; exact h.pc i hi, h.frame, h.bel, h.sz⟩
theorem P3.congr {w W : World} {base : Nat} {Ps : List Pr} {rv : Value} {mv : Nat → Value} {t t' : Nat → Nat} (h : P3 w W base Ps rv mv t) (e : ∀ i, i < Ps.length → t i = t' i) : P3 w W base Ps rv mv t' := ⟨h.code, fun i hi => by rw [← e i hi]; exact h.pc i hi, h.wh, h.dis, h.row, h.rr, h.frame, h.bel, h.sz, h.bw⟩
/-- all that is no code lies as it lay -/
def Frm (w W : World) (Ps : List Pr) : Prop := ∀ g, g < w.heap.size → (∀ i, i < Ps.length → cb (pd Ps i) ≠ some g) → W.heap[g]? = w.heap[g]?
theorem ProcsAt.frm {w W : World} {ao : Option Addr} {Ps : List Pr} (h : ProcsAt w ao Ps) (hf : Frm w W Ps) (hl : ∀ a, ao = some a → ∀ i, i < Ps.length → cb (pd Ps i) ≠ some a.block) : ProcsAt W ao Ps := by
  have hlt := h.lt
  rcases h with rfl | ⟨b, off, rfl, hc⟩
  · exact .inl rfl
  · by_cases hne : Ps = []
    · exact .inl hne
    · refine .inr ⟨b, off, rfl, fun j u hu => ?_⟩
      have := hc j u hu
      simp only [World.cell?] at this ⊢
      rw [hf b (hlt _ hne rfl) (hl _ rfl)]; exact this
theorem kd_row1 {i m k : Nat} (h : k < m) (B : List K) : kd (row1 i m ++ B) k = mk1 i k := by
  rw [kd_left _ _ _ (by rw [row1_length]; exact h)]
  simp [kd, cd, row1, List.getD_eq_getElem?_getD, h]
theorem kd_row2 {i m t k : Nat} (h : k < t) : kd (row1 i m ++ row2 i t) (m + k) = mk2 i k := by
  have := kd_right (row1 i m) (row2 i t) k (by rw [row2_length]; exact h)
  rw [row1_length] at this
  rw [this]
  simp [kd, cd, row2, List.getD_eq_getElem?_getD, h]

theorem cell_newR (w : World) (x : Value) (t : TypeId) (B : Nat) (hB : B = w.heap.size) : (w.alloc (.cells #[x] t)).cell? ⟨B, 0, none⟩ = some x := by
  subst hB
  exact cell_new1 w x t
theorem OwnR.opn {w : World} {base : Nat} {v : Value} {xs : List Value} (h : OwnR w base v xs) : ∃ a c, v = .slice a xs.length c ∧ (0 < xs.length → ∃ g, a = some ⟨g, 0, none⟩) := by
  rcases h.shape with ⟨rfl, rfl⟩ | ⟨g, cap, rfl, _⟩
  · exact ⟨none, 0, rfl, fun h => absurd h (by simp)⟩
  · exact ⟨_, cap, rfl, fun _ => ⟨g, rfl⟩⟩
theorem OwnR.cellR {w : World} {base g n c : Nat} {xs : List Value} {i : Nat} {x : Value} (h : OwnR w base (own g n c) xs) (hx : xs[i]? = some x) : w.cell? ⟨g, i, none⟩ = some x := by
  rcases h.shape with ⟨e, _⟩ | ⟨g', c', e, _, _, _, hc⟩
  · cases e
  · cases e; exact hc i x hx
theorem P1.kept {w W W' : World} {base : Nat} {Ps : List Pr} {Z : Nat → List K} (h : P1 w W base Ps Z) (hbw : base ≤ w.heap.size) (hb : Below W.heap.size W W') : P1 w W' base Ps Z :=
  ⟨fun i hi => (h.pc i hi).kept hb, fun g hg hn => (hb.block g (Nat.lt_of_lt_of_le hg h.sz)).trans (h.frame g hg hn), h.bel.trans (hb.mono (Nat.le_trans hbw h.sz)), Nat.le_trans h.sz hb.size⟩
theorem P3.rowAt {w W W' : World} {base i : Nat} {Ps : List Pr} {rv : Value} {mv : Nat → Value} {t : Nat → Nat} {v' : Value} (h : P3 w W base Ps rv mv t) (hi : i < Ps.length)
    (ha : (v'.ownBlock = (mv i).ownBlock ∧ W.grownBy W' (mv i).ownBlock ∧ ∀ g n cap, mv i = own g n cap → ∃ n', v' = own g n' cap) ∨ (v'.ownBlock = some W.heap.size ∧ W.grownBy W' none)) : OwnR W' base rv ((List.range Ps.length).map mv) := by
  refine h.row.same fun g hg => ?_
  rcases ha with ⟨_, hgr, _⟩ | ⟨_, hgr⟩
  · exact hgr.block g (h.row.lt g hg).2 (fun e => (h.rr g hg).2 i hi e.symm)
  · exact hgr.block g (h.row.lt g hg).2 (fun e => by cases e)

set_option maxRecDepth 100000 in
set_option maxHeartbeats 4000000 in
theorem apart_any (w : World) (base : Nat) (hbw : base ≤ w.heap.size) (a1 : Option Addr) (n c1 : Nat) (Ps : List Pr) (h1 : ProcsAt w a1 Ps) (hn : n = Ps.length) (hn64 : n ≤ 64) (hpc : ∀ x ∈ Ps, PrC w base x) (hap : Apt Ps)
    (hl : ∀ a, a1 = some a → ∀ i, i < Ps.length → cb (pd Ps i) ≠ some a.block)
    (a2 a3 : Option Addr) (m c2 c3 : Nat) (Qs Rs : List Pr) (hm : m = Rs.length) (hm64 : m ≤ 64) (hlk : Qs.map core = Rs.map core) (hq : ∀ W, Frm w W Ps → LibAt W a2 Qs ∧ LibAt W a3 Rs) :
    Calls Tryd.prog 15 #[.slice a1 n c1, .slice a2 m c2, .slice a3 m c3] w fun e w' => e = .returned (.bool true) ∧ Below base w w' := by
  have HN : Hid (n = Ps.length) := hn
  have HM : Hid (m = Rs.length) := hm
  have HLk : Hid (Qs.map core = Rs.map core) := hlk
  have HQ : Hid (∀ W, Frm w W Ps → LibAt W a2 Qs ∧ LibAt W a3 Rs) := hq
  have HPA : Hid (∀ W, Frm w W Ps → ProcsAt W a1 Ps) := fun W hf => h1.frm hf hl
  have HPc : Hid (∀ i, i < Ps.length → PrC w base (pd Ps i)) := fun i hi => hpc _ (pd_mem hi)
  have HPs : Hid (Pcs w Ps) := ⟨hap, fun i hi g hg => ((HPc.out i hi).lt g hg).2, fun i hi g off e => by
    rcases (HPc.out i hi).own.shape with ⟨e', _⟩ | ⟨g', c', e', _⟩
    · have : (pd Ps i).ao = none := by injection e'
      rw [e] at this; cases this
    · have : (pd Ps i).ao = some ⟨g', 0, none⟩ := by injection e'
      rw [e] at this; cases this; rfl⟩
  have HP0 : Hid (P1 w w base Ps (zk Ps 0)) := ⟨fun i hi => by show OwnK w base (cv (pd Ps i)) (if i < 0 then _ else _); rw [if_neg (by omega)]; exact (HPc.out i hi).own, fun _ _ _ => rfl, Below.refl _ _, Nat.le_refl _⟩
  have HBw : Hid (base ≤ w.heap.size) := hbw
  clear hn hm hlk hq h1 hpc hap hl hbw
  go_enter Tryd.func15, Tryd.ntmps15
  go_wp2_with fail
  go_loopw [7] (fun x wr => ∃ k : Nat, k ≤ n ∧ x = .int .i64 (k : Int) ∧ Hid (P1 w wr base Ps (zk Ps k))) (fun x _ => n - (intOf x).toNat)
  case atStart => exact ⟨0, Nat.zero_le _, rfl, HP0⟩
  case round =>
    clear HP0
    obtain ⟨k, hk, rfl, HP⟩ := hrel
    by_cases hlt : k < n
    · have hlt' : k < Ps.length := by have := HN.out; omega
      have HI : Hid (P1 w wr base Ps (upd (zk Ps k) k (mixR k 0 (pd Ps k).L))) := HP.out.congr fun i hi => by
        by_cases e : i = k
        · subst e; rw [upd_same, mixR_zero]; unfold zk; rw [if_neg (by omega)]
        · rw [upd_other _ _ e]
      have HCl : Hid (∀ W, P1 w W base Ps (upd (zk Ps k) k (row1 k (pd Ps k).n)) → P1 w W base Ps (zk Ps (k + 1))) := fun W h => h.congr fun i hi => by
        unfold zk
        by_cases e : i = k
        · subst e; rw [upd_same, if_pos (by omega)]
        · rw [upd_other _ _ e]
          by_cases h2 : i < k
          · rw [if_pos h2, if_pos (by omega)]
          · rw [if_neg h2, if_neg (by omega)]
      clear HP
      obtain ⟨xa, xn, xc, hX⟩ : ∃ xa xn xc, cv (pd Ps k) = .slice xa xn xc := ⟨_, _, _, rfl⟩
      have HX : Hid ((pd Ps k).ao = xa ∧ (pd Ps k).n = xn ∧ (pd Ps k).cap = xc) := by
        have e : Value.slice (pd Ps k).ao (pd Ps k).n (pd Ps k).cap = .slice xa xn xc := hX
        simp only [Value.slice.injEq] at e; exact e
      have HXL : Hid (xn = (pd Ps k).L.length) := by rw [← HX.out.2.1]; exact (HPc.out k hlt').len
      have HCv : Hid (cv (pd Ps k) = .slice xa xn xc) := hX
      have hx256 : xn ≤ 256 := by rw [← HX.out.2.1]; exact (HPc.out k hlt').big
      rw [HX.out.2.1] at HCl
      clear hX
      go_wp2_with fail
      go_loopw [8] (fun y wr => ∃ j : Nat, j ≤ xn ∧ y = .int .i64 (j : Int) ∧ Hid (P1 w wr base Ps (upd (zk Ps k) k (mixR k j (pd Ps k).L)))) (fun y _ => xn - (intOf y).toNat)
      case atStart => exact ⟨0, Nat.zero_le _, rfl, HI⟩
      case round =>
        clear HI
        obtain ⟨j, hj, rfl, HP⟩ := hrel
        obtain ⟨b, off, rfl, _, _, _, _, _, c5⟩ := (HPA.out _ HP.out.frame).get k hlt'
        rw [HX.out.1, HX.out.2.1, HX.out.2.2] at c5
        have ho := HP.out.pc k hlt'
        rw [upd_same, HCv.out] at ho
        have HO : Hid (OwnK wr base (.slice xa xn xc) (mixR k j (pd Ps k).L)) := ho
        clear ho
        by_cases hjl : j < xn
        · obtain ⟨g, rfl⟩ : ∃ g, xa = some ⟨g, 0, none⟩ := by
            rcases HO.out.shape with ⟨e, h0⟩ | ⟨g, c, e, _⟩
            · have := congrArg List.length h0
              rw [mixR_length (by have := HXL.out; omega)] at this
              have := HXL.out
              simp at *
              omega
            · injection e with e1 e2 e3; exact ⟨g, e1⟩
          have HSt := HO.out.set j hjl (-1 - (k : Int)) (j : Int)
          have HP2 : Hid (P1 w ((wr.setCell ⟨g, j * 2, none⟩ (.int .i64 (-1 - (k : Int)))).setCell ⟨g, j * 2 + 1, none⟩ (.int .i64 (j : Int))) base Ps (upd (zk Ps k) k (mixR k (j + 1) (pd Ps k).L))) := by
            have hcb : cb (pd Ps k) = some g := by rw [← cv_block, HCv.out]; rfl
            have h2 := HP.out.set (L := mixR k (j + 1) (pd Ps k).L) HPs.out.apt HBw.out hlt' (by
              rw [HCv.out, ← mixR_set (by have := HXL.out; omega)]; exact HSt.1) (by rw [hcb]; exact HSt.2)
            exact h2.congr fun i hi => by
              by_cases e : i = k
              · subst e; rw [upd_same, upd_same]
              · rw [upd_other _ _ e, upd_other _ _ e, upd_other _ _ e]
          have f0 := HO.out.frozen (j * 2)
          have f1 := HO.out.frozen (j * 2 + 1)
          obtain ⟨d0, d1⟩ := HO.out.at j hjl
          clear HSt HO HP
          go_wp2_with fail
          go_roundw
          case rel => exact ⟨j + 1, by omega, by go_num, HP2⟩
          case measure => simp [intOf]; omega
        · obtain rfl : j = xn := by omega
          have HP2 : Hid (P1 w wr base Ps (zk Ps (k + 1))) := HCl.out wr (by
            have := HP.out
            rw [HXL.out, mixR_full, ← HXL.out] at this
            exact this)
          clear HP HO
          go_wp2_with fail
          go_roundw
          case rel => exact ⟨k + 1, by omega, by go_num, HP2⟩
          case measure => simp [intOf]; omega
    · obtain rfl : k = n := by omega
      have HP1 : Hid (P1 w wr base Ps (fun i => row1 i (pd Ps i).n)) := HP.out.congr fun i hi => by unfold zk; rw [if_pos (by have := HN.out; omega)]
      clear HP
      go_wp2_with fail
      go_loopw [9, 10] (fun v x wr => ∃ (i : Nat) (a : Option Addr) (c : Nat), i ≤ k ∧ v = .slice a i c ∧ x = .int .i64 (i : Int) ∧ Hid (P1 w wr base Ps (fun i => row1 i (pd Ps i).n)) ∧ Hid (OwnR wr base (.slice a i c) ((List.range i).map fun i => cv (pd Ps i))) ∧ Hid (∀ g, (Value.slice a i c).ownBlock = some g → w.heap.size ≤ g)) (fun _ x _ => k - (intOf x).toNat)
      case atStart => exact ⟨0, none, 0, Nat.zero_le _, rfl, rfl, HP1, OwnR.nil _ _, fun g e => by cases e⟩
      case round =>
        clear HP1
        obtain ⟨i, ra, rc, hi, rfl, rfl, HP1, HR, HRb⟩ := hrel
        by_cases hik : i < k
        · have hi' : i < Ps.length := by have := HN.out; omega
          obtain ⟨b, off, rfl, _, _, _, _, _, c5⟩ := (HPA.out _ HP1.out.frame).get i hi'
          have HCv : Hid (cv (pd Ps i) = .slice (pd Ps i).ao (pd Ps i).n (pd Ps i).cap) := rfl
          generalize (pd Ps i).ao = xa at *
          generalize (pd Ps i).n = xn at *
          generalize (pd Ps i).cap = xc at *
          have HBl : Hid (Below wr.heap.size wr (wr.alloc (.cells #[.slice xa xn xc] 39))) := (Below.refl _ _).alloc (Nat.le_refl _) _
          go_wp2_with (at_builtin; refine wpList_append_rows rfl _ _ rfl base (.slice ra i rc) ((List.range i).map fun i => cv (pd Ps i)) rfl (HR.out.kept HBl.out) _ (.slice xa xn xc) rfl (cell_newR _ _ _ _ rfl) rfl (by simp; omega) (by have := HP1.out.sz; have := HBw.out; simp only [World.size_alloc]; omega) ?_; intro v2 w2 h2 hg2 hat2)
          have HP2 : Hid (P1 w w2 base Ps (fun i => row1 i (pd Ps i).n)) := (HP1.out.kept HBw.out HBl.out).same HBw.out hg2 HRb.out HPs.out.lt
          have HR2 : Hid (OwnR w2 base v2 ((List.range (i + 1)).map fun i => cv (pd Ps i))) := by rw [range_snoc, HCv.out]; exact h2
          have HRb2 : Hid (∀ g, v2.ownBlock = some g → w.heap.size ≤ g) := fun g hg => by
            rcases hat2 with e | e
            · rw [e] at hg; exact HRb.out g hg
            · rw [e] at hg; cases hg; have := HP1.out.sz; simp only [World.size_alloc]; omega
          obtain ⟨a3, c3', hv3, _⟩ := HR2.out.opn
          simp only [List.length_map, List.length_range] at hv3
          subst hv3
          clear h2 hg2 hat2 HP1 HR HRb HBl HCv
          go_wp2
          go_roundw
          case rel => exact ⟨i + 1, a3, c3', by omega, rfl, by go_num, HP2, HR2, HRb2⟩
          case measure => simp [intOf]; omega
        · obtain rfl : i = k := by omega
          have HP3 : Hid (P3 w wr base Ps (.slice ra i rc) (fun i => cv (pd Ps i)) (fun _ => 0)) := P3.of HP1.out HPs.out (by rw [← HN.out]; exact HR.out) HRb.out HBw.out
          have HRa : Hid (0 < i → ∃ g, ra = some ⟨g, 0, none⟩) := fun h => by
            obtain ⟨a, c, e, h2⟩ := HR.out.opn
            injection e with e1 e2 e3
            rw [e1]; exact h2 (by simpa using h)
          clear HP1 HR HRb
          go_wp2_with fail
          go_loopw [11] (fun x wr => ∃ (t : Nat) (mv : Nat → Value), t ≤ 40 ∧ x = .int .i64 (t : Int) ∧ Hid (P3 w wr base Ps (.slice ra i rc) mv (fun _ => t))) (fun x _ => 40 - (intOf x).toNat)
          case atStart => exact ⟨0, _, by omega, rfl, HP3⟩
          case round =>
            clear HP3
            obtain ⟨t, mv, ht, rfl, HP⟩ := hrel
            by_cases ht40 : t < 40
            · have ht40' : (t : Int) < 40 := by omega
              have HI : Hid (P3 w wr base Ps (.slice ra i rc) mv (fun j => if j < 0 then t + 1 else t)) := HP.out.congr fun j _ => by rw [if_neg (by omega)]
              clear HP
              go_wp2_with fail
              go_loopw [12] (fun y wr => ∃ (j : Nat) (mv : Nat → Value), j ≤ i ∧ y = .int .i64 (j : Int) ∧ Hid (P3 w wr base Ps (.slice ra i rc) mv (fun m => if m < j then t + 1 else t))) (fun y _ => i - (intOf y).toNat)
              case atStart => exact ⟨0, mv, by omega, rfl, HI⟩
              case round =>
                clear HI
                obtain ⟨j, mu, hj, rfl, HP⟩ := hrel
                by_cases hjl : j < i
                · have hj' : j < Ps.length := by have := HN.out; omega
                  obtain ⟨R, rfl⟩ := HRa.out (by omega)
                  have c0 := HP.out.row.cellR (range_get mu hj')
                  have HO0 := HP.out.pc j hj'
                  simp only [Nat.lt_irrefl, if_false] at HO0
                  obtain ⟨am, cm, hmv, _, _, _⟩ := HO0.slice
                  rw [List.length_append, row1_length, row2_length] at hmv
                  have hn256 : (pd Ps j).n ≤ 256 := (HPc.out j hj').big
                  have HMv : Hid (mu j = .slice am ((pd Ps j).n + t) cm) := hmv
                  rw [hmv] at c0
                  have HO : Hid (OwnK wr base (.slice am ((pd Ps j).n + t) cm) (row1 j (pd Ps j).n ++ row2 j t)) := by rw [← hmv]; exact HO0
                  clear HO0 hmv
                  obtain ⟨xl, hxl⟩ : ∃ xl, xl = (pd Ps j).n + t := ⟨_, rfl⟩
                  rw [← hxl] at c0 HMv HO
                  have hxl2 : xl ≤ 296 := by omega
                  have HLn : Hid ((row1 j (pd Ps j).n ++ row2 j t).length = xl) := by show _ = _; rw [List.length_append, row1_length, row2_length]; exact hxl.symm
                  clear hxl
                  have HBl : Hid (Below wr.heap.size wr (wr.alloc (.cells #[.int .i64 (-1000 - (j : Int)), .int .i64 (t : Int)] 87))) := (Below.refl _ _).alloc (Nat.le_refl _) _
                  have HPl : Hid (P3 w (wr.alloc (.cells #[.int .i64 (-1000 - (j : Int)), .int .i64 (t : Int)] 87)) base Ps (own R i rc) mu (fun m => if m < j then t + 1 else t)) := HP.out.kept HBl.out
                  go_wp2_with (at_builtin; refine wpList_append_keys2 rfl _ _ rfl base (.slice am xl cm) (row1 j (pd Ps j).n ++ row2 j t) rfl (HO.out.kept HBl.out) _ 1 1 [mk2 j t] rfl rfl (key_src wr _ (-1000 - (j : Int)) (t : Int) rfl) (by rw [HLn.out]; simp; omega) (by have := HPl.out.bw; have := HPl.out.sz; omega) ?_; intro v2 w2 h2 ha2; have HA2 : Hid ((v2.ownBlock = (mu j).ownBlock ∧ (wr.alloc (.cells #[.int .i64 (-1000 - (j : Int)), .int .i64 (t : Int)] 87)).grownBy w2 (mu j).ownBlock ∧ ∀ g n cap, mu j = own g n cap → ∃ n', v2 = own g n' cap) ∨ (v2.ownBlock = some (wr.alloc (.cells #[.int .i64 (-1000 - (j : Int)), .int .i64 (t : Int)] 87)).heap.size ∧ (wr.alloc (.cells #[.int .i64 (-1000 - (j : Int)), .int .i64 (t : Int)] 87)).grownBy w2 none)) := (by rw [HMv.out]; exact ha2); have hr2 := HPl.out.rowAt hj' HA2.out; have c2 := hr2.cellR (range_get mu hj'); have f2 := hr2.frozen j; rw [HMv.out] at c2; obtain ⟨a2', c2', hv2, _, _, _⟩ := h2.slice; obtain ⟨l2, hl2⟩ : ∃ l2, l2 = (row1 j (pd Ps j).n ++ row2 j t ++ [mk2 j t]).length := ⟨_, rfl⟩; rw [← hl2] at hv2; clear hl2; subst hv2; have HH2 : Hid (OwnK w2 base (.slice a2' l2 c2') (row1 j (pd Ps j).n ++ row2 j t ++ [mk2 j t])) := h2; clear hr2 ha2 h2)
                  have HP2 : Hid (P3 w (w2.setCell ⟨R, j, none⟩ (.slice a2' l2 c2')) base Ps (own R i rc) (upd mu j (.slice a2' l2 c2')) (fun m => if m < j + 1 then t + 1 else t)) := by
                    have h3 := HPl.out.put HPs.out hj' (by simp only [Nat.lt_irrefl, if_false]; exact HH2.out) HA2.out
                    refine h3.congr fun m hm => ?_
                    by_cases e : m = j
                    · subst e; rw [upd_same]; simp
                    · rw [upd_other _ _ e]
                      by_cases h4 : m < j
                      · rw [if_pos h4, if_pos (by omega)]
                      · rw [if_neg h4, if_neg (by omega)]
                  clear HP HPl HA2 HH2 HO HLn HBl HMv c0 c2 f2
                  go_roundw
                  case rel => exact ⟨j + 1, _, by omega, by go_num, HP2⟩
                  case measure => simp [intOf]; omega
                · obtain rfl : j = i := by omega
                  have HP2 : Hid (P3 w wr base Ps (.slice ra j rc) mu (fun _ => t + 1)) := HP.out.congr fun m hm => by rw [if_pos (by have := HN.out; omega)]
                  clear HP
                  go_wp2_with fail
                  go_roundw
                  case rel => exact ⟨t + 1, mu, by omega, by go_num, HP2⟩
                  case measure => simp [intOf]; omega
            · obtain rfl : t = 40 := by omega
              rw [show ((40 : Nat) : Int) = 40 from rfl]
              go_wp2_with fail
              go_loopw [13] (fun x wr => ∃ j : Nat, j ≤ i ∧ x = .int .i64 (j : Int) ∧ Hid (P3 w wr base Ps (.slice ra i rc) mv (fun _ => 40))) (fun x _ => i - (intOf x).toNat)
              case atStart => exact ⟨0, by omega, rfl, HP⟩
              case round =>
                clear HP
                obtain ⟨j, hj, rfl, HP⟩ := hrel
                by_cases hjl : j < i
                · have hj' : j < Ps.length := by have := HN.out; omega
                  obtain ⟨R, rfl⟩ := HRa.out (by omega)
                  obtain ⟨b, off, rfl, _, _, _, _, _, c5⟩ := (HPA.out _ HP.out.frame).get j hj'
                  obtain ⟨xa, xn, xc, hX⟩ : ∃ xa xn xc, cv (pd Ps j) = .slice xa xn xc := ⟨_, _, _, rfl⟩
                  have HX : Hid ((pd Ps j).ao = xa ∧ (pd Ps j).n = xn ∧ (pd Ps j).cap = xc) := by
                    have e : Value.slice (pd Ps j).ao (pd Ps j).n (pd Ps j).cap = .slice xa xn xc := hX
                    simp only [Value.slice.injEq] at e; exact e
                  have hx256 : xn ≤ 256 := by rw [← HX.out.2.1]; exact (HPc.out j hj').big
                  clear hX
                  rw [HX.out.1, HX.out.2.1, HX.out.2.2] at c5
                  obtain ⟨am, cm, hmv, _, _, _⟩ := (HP.out.pc j hj').slice
                  rw [List.length_append, row1_length, row2_length, HX.out.2.1] at hmv
                  have HMv : Hid (mv j = .slice am (xn + 40) cm) := hmv
                  clear hmv
                  obtain ⟨xl, hxl⟩ : ∃ xl, xl = xn + 40 := ⟨_, rfl⟩
                  rw [← hxl] at HMv
                  have HXl : Hid (xl = xn + 40) := hxl
                  have hxl2 : xl ≤ 296 := by omega
                  clear hxl
                  go_wp2_with fail
                  go_loopw [15] (fun y wr => ∃ q : Nat, q ≤ xl ∧ y = .int .i64 (q : Int) ∧ Hid (P3 w wr base Ps (own R i rc) mv (fun _ => 40))) (fun y _ => xl - (intOf y).toNat)
                  case atStart => exact ⟨0, by omega, rfl, HP⟩
                  case round =>
                    clear HP c5
                    obtain ⟨q, hq, rfl, HP⟩ := hrel
                    have c0 := HP.out.row.cellR (range_get mv hj')
                    rw [HMv.out] at c0
                    by_cases hql : q < xl
                    · have HO0 := HP.out.pc j hj'
                      rw [HMv.out, HX.out.2.1] at HO0
                      obtain ⟨_, _, e0, hk0, _, _⟩ := HO0.slice
                      injection e0 with e1 e2 e3
                      rw [← e1] at hk0
                      obtain ⟨bm, om, rfl, m1, m2⟩ := hk0.get q (by rw [List.length_append, row1_length, row2_length, ← HXl.out]; exact hql)
                      clear e2 e3 e1
                      by_cases hqn : q < xn
                      · have hcode := HP.out.code j hj'
                        rw [HX.out.1, HX.out.2.1] at hcode
                        obtain ⟨bc, oc, rfl, k1, k2⟩ := hcode.get q (by rw [row1_length]; exact hqn)
                        have e4 : cd (row1 j xn ++ row2 j 40) q = mk1 j q := kd_row1 hqn _
                        have e5 : cd (row1 j xn) q = mk1 j q := by have := kd_row1 (i := j) hqn []; rw [List.append_nil] at this; exact this
                        rw [e4] at m1 m2
                        rw [e5] at k1 k2
                        simp only [mk1] at m1 m2 k1 k2
                        have hns := run_neSame (-1 - (j : Int)) (q : Int)
                        have hgd := fun op x y => run_eqGuard op x y (-1 - (j : Int)) (q : Int) (-1 - (j : Int)) (q : Int)
                        have hge : ¬ ((xn : Int) ≤ (q : Int)) := by omega
                        have hgn : ¬ (xn ≤ q) := by omega
                        have hgd1 : decide ((xn : Int) ≤ (q : Int)) = false := by simpa using hgn
                        have hgd2 : decide (xn ≤ q) = false := by simpa using hqn
                        have hqi : (q : Int) < (xn : Int) := by omega
                        have hwr : IntKind.i64.wrap (-1 - (j : Int)) = -1 - (j : Int) := by rw [IntKind.wrap_i64]; omega
                        clear e4 e5 hcode hk0 HO0
                        go_wp2_with fail
                        go_quiet (fail)
                        have HP2 : Hid (P3 w (wr.drewN nq) base Ps (own R i rc) mv (fun _ => 40)) := HP.out.kept ⟨rfl, rfl, rfl, Nat.le_refl _, fun _ _ => rfl⟩
                        go_wp2_with fail
                        go_roundw
                        case rel => exact ⟨q + 1, by omega, by go_num, HP2⟩
                        case measure => simp [intOf]; omega
                      · have e4 : cd (row1 j xn ++ row2 j 40) q = mk2 j (q - xn) := by
                          have := kd_row2 (i := j) (m := xn) (t := 40) (k := q - xn) (by have := HXl.out; omega)
                          rw [show xn + (q - xn) = q by omega] at this; exact this
                        rw [e4] at m1 m2
                        simp only [mk2] at m1 m2
                        have hge : (xn : Int) ≤ (q : Int) := by omega
                        have hgn : xn ≤ q := by omega
                        have hgd1 : decide ((xn : Int) ≤ (q : Int)) = true := by simpa using hgn
                        have hqi : ¬ (q : Int) < (xn : Int) := by omega
                        have hwr : IntKind.i64.wrap (-1000 - (j : Int)) = -1000 - (j : Int) := by rw [IntKind.wrap_i64]; omega
                        clear e4 hk0 HO0
                        go_wp2_with fail
                        go_quiet (fail)
                        have HP2 : Hid (P3 w (wr.drewN nq) base Ps (own R i rc) mv (fun _ => 40)) := HP.out.kept ⟨rfl, rfl, rfl, Nat.le_refl _, fun _ _ => rfl⟩
                        go_wp2_with fail
                        go_roundw
                        case rel => exact ⟨q + 1, by omega, by go_num, HP2⟩
                        case measure => simp [intOf]; omega
                    · obtain rfl : q = xl := by omega
                      go_wp2_with fail
                      go_roundw
                      case rel => exact ⟨j + 1, by omega, by go_num, HP⟩
                      case measure => simp [intOf]; omega
                · obtain rfl : j = i := by omega
                  have hB := HP.out.bel
                  have HB : Hid (Below base w wr) := hB
                  obtain ⟨hq2, hq3⟩ := HQ.out wr HP.out.frame
                  have HQ2 : Hid (LibAt wr a2 Qs) := hq2
                  have HQ3 : Hid (LibAt wr a3 Rs) := hq3
                  have HMq : Hid (m = Qs.length) := by
                    have : Qs.length = Rs.length := by simpa using congrArg List.length HLk.out
                    show m = _; rw [this]; exact HM.out
                  clear HP hB hq2 hq3
                  go_wp2_with fail
                  refine (sameLibrary_eq wr a2 a3 m c2 c3 Qs Rs HQ2.out.at_ HQ3.out.at_ HM.out HMq.out (by omega) (fun i hi => like_core HLk.out _ HQ2.out.ok HQ3.out.ok i (by rw [← HM.out]; exact hi))).mono ?_
                  rintro e w9 ⟨rfl, hg9⟩
                  have HB9 : Hid (Below base w w9) := HB.out.trans ((Grew.below hg9).mono (Nat.le_trans HBw.out (by have := HB.out.size; omega)))
                  clear hg9
                  go_wp2
                  go_ret
                  exact ⟨rfl, HB9.out⟩
end Go.Proofs.YtkjmeknaedapjaaDoor
