import Derived.Test.YtbmohlkcmhhpgaaGreatJKRefChk
import Derived.Test.YtbmohlkcmhhpgaaGreatKFind
import Derived.Test.YtbmohlkcmhhpgaaGreatJKCompact
import Derived.Test.YtbmohlkcmhhpgaaGreatJBkDColl
import Derived.BigQuiet
import Derived.BigRegion
/-
  THE WALKS OF THE DOCUMENT's all, Rises, Has.
-/
namespace Go.Proofs.YtbmohlkcmhhpgaaGreat
open Go.RowKit Go.Sort

set_option maxHeartbeats 2000000 in
set_option maxRecDepth 100000 in
theorem refAll_any (w : World) (ao : Option Addr) (cap n : Nat) (L : List K) (hn : n = L.length) (h : KeysAt w ao L) (hm : n ≤ 8796093022208) :
    Calls Tryz.prog 62 #[.slice ao n cap] w fun e w' => e = .returned (.bool (L.all isKey)) ∧ ∃ q os, w' = grow (w.drewN q) os := by
  have HN : Hid (n = L.length) := hn
  have HK : Hid (KeysAt w ao L) := h
  clear hn h
  go_enter Tryz.func62, Tryz.ntmps62
  go_wp2_with fail
  go_loopw [3] (fun x wr => ∃ k : Nat, k ≤ n ∧ x = .int .i64 (k : Int) ∧ Hid ((L.take k).all isKey = true) ∧ Hid (Grew w wr)) (fun x _ => n - (intOf x).toNat)
  case atStart => exact ⟨0, Nat.zero_le _, rfl, by simp [Hid], Grew.refl _⟩
  case round =>
    obtain ⟨k, hk, rfl, HA, HG⟩ := hrel
    by_cases hlt : k < n
    · have hl : k < L.length := by have := HN.out; omega
      rcases HK.out.grew HG.out with h0 | ⟨b, off, rfl, hc⟩
      · rw [h0] at hl; simp at hl
      · obtain ⟨c1, c2⟩ := KeysAt.at hc k hl
        have HT : Hid (isKey (kd L k) = true → (L.take (k + 1)).all isKey = true) := all_take L k HA.out hl
        have HF : Hid (isKey (kd L k) = false → L.all isKey = false) := all_false hl
        generalize kd L k = kk at *
        obtain ⟨t, r⟩ := kk
        simp only at c1 c2
        clear hc hl
        have HC : Hid (∀ b, isKey (t, r) = b → ∀ w, Calls Tryz.prog 74 #[.agg #[.int .i64 t, .int .i64 r]] w fun e w' => e = .returned (.int .i64 (errOf b 20)) ∧ ∃ q os, w' = grow (w.drewN q) os) := fun b hb w => hb ▸ refCheck_any w t r
        cases hik : isKey (t, r) with
        | false =>
          have HE : Hid (L.all isKey = false) := HF.out hik
          have HC1 := HC.out _ hik
          simp only [errOf] at HC1
          have HC2 : Hid _ := HC1
          clear HT HF HC hik HC1
          go_wp2_with fail
          refine (HC2.out _).mono ?_
          rintro e w1 ⟨rfl, hg⟩
          go_wp2
          go_ret
          exact ⟨by rw [HE.out]; rfl, HG.out.trans hg⟩
        | true =>
          have HE : Hid ((L.take (k + 1)).all isKey = true) := HT.out hik
          have HC1 := HC.out _ hik
          simp only [errOf] at HC1
          have HC2 : Hid _ := HC1
          clear HT HF HC hik HC1
          go_wp2_with fail
          refine (HC2.out _).mono ?_
          rintro e w1 ⟨rfl, hg⟩
          have HG1 : Hid (Grew w w1) := HG.out.trans hg
          clear hg
          go_wp2_with fail
          go_roundw
          case rel => exact ⟨k + 1, by omega, by go_num, HE, HG1⟩
          case measure => simp [intOf]; omega
    · obtain rfl : k = n := by omega
      have HE : Hid (L.all isKey = true) := by have := HA.out; rwa [HN.out, List.take_length] at this
      go_wp2
      go_ret
      exact ⟨by rw [HE.out]; rfl, HG.out⟩

end Go.Proofs.YtbmohlkcmhhpgaaGreat
/-
  THE WALKS OF THE DOCUMENT's Rises, Has, Find.
-/
namespace Go.Proofs.YtbmohlkcmhhpgaaGreat
open Go.RowKit Go.Sort

def RisesTo (b : Bool) (L : List K) (k : Nat) : Prop := b = true ↔ (L.all isKey = true ∧ Rise (L.take k))
theorem RisesTo.start (L : List K) : RisesTo (L.all isKey) L 1 := by
  unfold RisesTo
  constructor
  · intro h
    refine ⟨h, ?_⟩
    cases L with
    | nil => exact rise_nil
    | cons a L => exact ⟨by simp at h; simpa using h.1, by simp⟩
  · exact fun h => h.1
theorem RisesTo.no {L : List K} {k : Nat} (h : RisesTo false L k) : RisesTo false L (k + 1) := by
  unfold RisesTo at *
  constructor
  · intro e; cases e
  · rintro ⟨h1, h2⟩
    refine h.2 ⟨h1, ?_⟩
    have := h2.take k
    rwa [List.take_take, Nat.min_eq_left (by omega)] at this
theorem RisesTo.step {L : List K} {j : Nat} (hk : j + 1 < L.length) (h : RisesTo true L (j + 1)) : RisesTo (lt (kd L j) (kd L (j + 1))) L (j + 1 + 1) := by
  unfold RisesTo at *
  obtain ⟨h1, h2⟩ := h.1 rfl
  constructor
  · intro e
    exact ⟨h1, rise_next hk h2 ((List.all_eq_true.1 h1) _ (kd_mem hk)) (fun i hi => by rw [show i = j by omega]; exact e)⟩
  · rintro ⟨_, h3⟩
    have := rise_pair (L := L.take (j + 1 + 1)) (i := j) (j := j + 1) (by omega) (by simp; omega) h3
    have e : ∀ i, i < j + 1 + 1 → kd (L.take (j + 1 + 1)) i = kd L i := fun i hi => by
      unfold kd; rw [List.getD_eq_getElem?_getD, List.getD_eq_getElem?_getD, List.getElem?_take, if_pos hi]
    rwa [e j (by omega), e (j + 1) (by omega)] at this
theorem RisesTo.all {b : Bool} {L : List K} {k : Nat} (h : RisesTo b L k) (hk : L.length ≤ k) : b = decide (Rise L) := by
  unfold RisesTo at h
  rw [List.take_of_length_le hk] at h
  cases b with
  | true => exact (decide_eq_true (h.1 rfl).2).symm
  | false => exact (decide_eq_false (fun hr => by have := h.2 ⟨List.all_eq_true.2 hr.1, hr⟩; cases this)).symm

set_option maxHeartbeats 2000000 in
set_option maxRecDepth 100000 in
theorem refRises_any (w : World) (ao : Option Addr) (cap n : Nat) (L : List K) (hn : n = L.length) (h : KeysAt w ao L) (hm : n ≤ 8796093022208) :
    Calls Tryz.prog 43 #[.slice ao n cap] w fun e w' => e = .returned (.bool (decide (Rise L))) ∧ ∃ q os, w' = grow (w.drewN q) os := by
  have mx := mixed
  have HN : Hid (n = L.length) := hn
  have HK : Hid (KeysAt w ao L) := h
  clear hn h
  go_enter Tryz.func43, Tryz.ntmps43
  go_wp2_with fail
  refine (refAll_any w ao cap n L HN.out HK.out hm).mono ?_
  rintro e w1 ⟨rfl, hg⟩
  have HG1 : Hid (Grew w w1) := hg
  clear hg
  have HS : Hid (RisesTo (L.all isKey) L 1) := RisesTo.start L
  generalize L.all isKey = b0 at *
  go_wp2_with fail
  go_loopw [4, 3] (fun x y wr => ∃ (j : Nat) (b : Bool), j ≤ n ∧ x = .int .i64 ((j + 1 : Nat) : Int) ∧ y = .bool b ∧ Hid (RisesTo b L (j + 1)) ∧ Hid (Grew w wr)) (fun x _ _ => n + 1 - (intOf x).toNat)
  case atStart => exact ⟨0, b0, Nat.zero_le _, rfl, rfl, HS, HG1⟩
  case round =>
    clear HS HG1
    obtain ⟨j, b, hj, rfl, rfl, HR, HG⟩ := hrel
    obtain ⟨k, hk⟩ : ∃ k, k = j + 1 := ⟨_, rfl⟩
    have Hkj : Hid (k = j + 1) := hk
    rw [← hk] at HR ⊢
    by_cases hlt : k < n
    · have hl : k < L.length := by have := HN.out; omega
      rcases HK.out.grew HG.out with h0 | ⟨bb, off, rfl, hc⟩
      · rw [h0] at hl; simp at hl
      · cases b with
        | false =>
          have HR2 : Hid (RisesTo false L (k + 1)) := HR.out.no
          clear hc hl HR hk
          go_wp2_with fail
          refine wp_region_quiet_grown mx (by kernel_rfl) ?_
          repeat (go_big_quiet_step (fail))
          refine wpQuiet_nil ?_
          intro _ hw'
          obtain ⟨⟨nq, osq⟩, hw''⟩ := hw'
          subst hw''
          have HG2 : Hid (Grew w (grow (wr.drewN nq) osq)) := HG.out.trans ⟨_, _, rfl⟩
          generalize grow (wr.drewN nq) osq = W2 at *
          go_wp2_with fail
          go_roundw
          case rel => exact ⟨k, false, by omega, by go_num, rfl, HR2, HG2⟩
          case measure => simp [intOf]; omega
        | true =>
          obtain ⟨c1, c2⟩ := KeysAt.at hc k hl
          obtain ⟨p1, p2⟩ := KeysAt.at hc j (by omega)
          have HR2 : Hid (RisesTo (lt (kd L j) (kd L k)) L (k + 1)) := by subst hk; exact HR.out.step hl
          have HD : Hid (decide (cmp (kd L j) (kd L k) < 0) = lt (kd L j) (kd L k)) := by rw [Hid]; have := cmp_neg (kd L j) (kd L k); cases h : lt (kd L j) (kd L k) <;> simp [h] at this ⊢ <;> omega
          have hkm : (k : Int) - 1 = (j : Int) := by omega
          generalize hx : kd L k = x at *
          generalize hy : kd L j = y at *
          clear hx hy hc hl HR hk
          obtain ⟨x1, x2⟩ := x
          obtain ⟨y1, y2⟩ := y
          simp only at c1 c2 p1 p2
          have HCm : Hid (∀ w, Calls Tryz.prog 63 #[.agg #[.int .i64 y1, .int .i64 y2], .agg #[.int .i64 x1, .int .i64 x2]] w fun e w' => e = .returned (.int .i64 (cmp (y1, y2) (x1, x2))) ∧ ∃ q os, w' = grow (w.drewN q) os) := fun w => refCompare_any w _ _ _ _
          have hd := HD.out
          generalize cmp (y1, y2) (x1, x2) = c at *
          generalize lt (y1, y2) (x1, x2) = bl at *
          have g1 : ∀ n os, (grow (wr.drewN n) os).cell? ⟨bb, off + k * 2, none⟩ = some (.int .i64 x1) := fun n os => Grew.cell ⟨n, os, rfl⟩ c1
          have g2 : ∀ n os, (grow (wr.drewN n) os).cell? ⟨bb, off + k * 2 + 1, none⟩ = some (.int .i64 x2) := fun n os => Grew.cell ⟨n, os, rfl⟩ c2
          have q1 : ∀ n os, (grow (wr.drewN n) os).cell? ⟨bb, off + j * 2, none⟩ = some (.int .i64 y1) := fun n os => Grew.cell ⟨n, os, rfl⟩ p1
          have q2 : ∀ n os, (grow (wr.drewN n) os).cell? ⟨bb, off + j * 2 + 1, none⟩ = some (.int .i64 y2) := fun n os => Grew.cell ⟨n, os, rfl⟩ p2
          clear HD c1 c2 p1 p2
          go_wp2_with fail
          refine wp_region_quiet_grown mx (by kernel_rfl) ?_
          repeat (go_big_quiet_step ((go_at_call 63; exact Calls.grown_of (HCm.out _))))
          refine wpQuiet_nil ?_
          intro _ hw'
          obtain ⟨⟨nq, osq⟩, hw''⟩ := hw'
          subst hw''
          have HG2 : Hid (Grew w (grow (wr.drewN nq) osq)) := HG.out.trans ⟨_, _, rfl⟩
          generalize grow (wr.drewN nq) osq = W2 at *
          go_wp2_with fail
          go_roundw
          case rel => exact ⟨k, bl, by omega, by go_num, rfl, HR2, HG2⟩
          case measure => simp [intOf]; omega
    · have HE : Hid (b = decide (Rise L)) := HR.out.all (by have := HN.out; omega)
      clear hk
      go_wp2
      go_ret
      exact ⟨by rw [HE.out]; rfl, HG.out⟩

end Go.Proofs.YtbmohlkcmhhpgaaGreat
/-
  THE DOCUMENT'S Admit.
-/
namespace Go.Proofs.YtbmohlkcmhhpgaaGreat
open Go.RowKit Go.Sort

theorem Fr.grownS {S : Nat → Prop} {a b c : World} (h : Fr S a b) {o : Option Nat} (hg : b.grownBy c o) (ho : ∀ k, o = some k → S k ∨ a.heap.size ≤ k) : Fr S a c :=
  ⟨hg.os.trans h.os, hg.tape.trans h.tape, hg.output.trans h.output, Nat.le_trans h.size hg.size, fun k hk hS => (hg.block k (Nat.lt_of_lt_of_le hk h.size) (fun e => by
    rcases ho k e.symm with h1 | h1
    · exact hS h1
    · omega)).trans (h.block k hk hS)⟩
/-- one version more -/
theorem RPost.push {w wr : World} {base R : Nat} {room : Int} {av pv : Value} {s' : Bs} (h : RPost w base R room av pv s' wr) (x : V4) (hlen : s'.all.length + 1 ≤ 1000000000000) (hbs : base ≤ w.heap.size) (ty : TypeId) :
    ∃ av' v2 w2, wr.cell? ⟨R, 3, none⟩ = some av' ∧ (Builtin.append_ #[72, 72] ty #[av', .slice (some ⟨wr.heap.size, 0, none⟩) 1 1]).run Tryz.prog (wr.drew.alloc (.cells #[.int .i64 x.1.1, .int .i64 x.1.2, .int .i64 x.2.1, .int .i64 x.2.2] 101)) = .ok v2 w2 ∧ (∃ a m c, v2 = .slice a m c) ∧ (∃ a m c, av' = .slice a m c) ∧ w2.cell? ⟨R, 3, none⟩ = some av' ∧ w2.frozen? ⟨R, 3, none⟩ = false ∧ RPost w base R room av pv ⟨s'.la, s'.fl, s'.pins, s'.all ++ [x]⟩ (w2.setCell ⟨R, 3, none⟩ v2) := by
  obtain ⟨av', pv', hrb, hfr, hsr⟩ := h
  have hbd : Below wr.heap.size wr wr.drew := drew_below wr 1
  have hrd := hrb.kept hbd
  obtain ⟨v2, w2, z1, z2, z3, z4, z5⟩ := akVer.app1 wr.drew ty base av' s'.all.length (v4s s'.all) [.int .i64 x.1.1, .int .i64 x.1.2, .int .i64 x.2.1, .int .i64 x.2.2] hrd.ra rfl (by intro u hu; simp at hu; rcases hu with rfl | rfl | rfl | rfl <;> rfl) hlen (by omega) (Nat.le_trans hbs hfr.size)
  obtain ⟨a1, m1, c1, e1, _⟩ := rowOpenD hrb.ra
  have hbV : Below wr.heap.size wr (wr.drew.alloc (.cells #[.int .i64 x.1.1, .int .i64 x.1.2, .int .i64 x.2.1, .int .i64 x.2.2] 101)) := hbd.alloc hbd.size _
  have hrV := hrb.kept hbV
  have ho : w2.ownsRow base 101 4 v2 (s'.all ++ [x]).length (v4s (s'.all ++ [x])) := by
    rw [v4s_append, List.length_append]
    exact z3
  obtain ⟨⟨g1, g2⟩, hf⟩ := hrV.putAll ho z4 (by
    rcases z5 with h1 | h1
    · exact .inl h1
    · exact .inr (by rw [h1]; simp))
  refine ⟨av', v2, w2, hrb.cells.2.2.2.1, z1, z2, ⟨a1, m1, c1, e1⟩, g1, g2, v2, pv', hf, ?_, fun k hk => ?_⟩
  · have h1 : Fr (SR R av pv) w (wr.drew.alloc (.cells #[.int .i64 x.1.1, .int .i64 x.1.2, .int .i64 x.2.1, .int .i64 x.2.2] 101)) := hfr.trans (Fr.ofBelow hbV)
    exact (h1.grownS z4 (fun k hk => hsr k (.inr (.inl hk)))).set ⟨R, 3, none⟩ _ (.inr (.inl rfl))
  · rcases hk with rfl | hk | hk
    · exact .inl (.inl rfl)
    · rcases z5 with h1 | h1
      · exact hsr k (.inr (.inl (by rw [← h1]; exact hk)))
      · rw [hk] at h1
        cases h1
        have := hfr.size
        exact .inr (by simp; omega)
    · exact hsr k (.inr (.inr hk))
def RAdmPost (w : World) (base R : Nat) (room : Int) (av pv : Value) (s : Bs) (L : List (List K)) (e : Ending) (w' : World) : Prop :=
  (admE room s.la s.all L ≠ 0 ∧ e = .returned (.tuple #[.int .i64 0, .int .i64 (admE room s.la s.all L)]) ∧ Below w.heap.size w w') ∨
  (admE room s.la s.all L = 0 ∧ e = .returned (.tuple #[.int .i64 (s.la + 1), .int .i64 0]) ∧ RPost w base R room av pv ⟨s.la + 1, s.fl, s.pins, s.all ++ newFrom (s.la + 1) 0 L⟩ w')
theorem RAdmPost.no {w w' : World} {base R : Nat} {room : Int} {av pv : Value} {s : Bs} {L : List (List K)} {E : Int} (h : admE room s.la s.all L = E) (hE : E ≠ 0) (hb : Below w.heap.size w w') : RAdmPost w base R room av pv s L (.returned (.tuple #[.int .i64 0, .int .i64 E])) w' := by
  subst h
  exact .inl ⟨hE, rfl, hb⟩
set_option maxRecDepth 100000 in
set_option maxHeartbeats 4000000 in
theorem rAdmit_any (w : World) (base R : Nat) (room : Int) (av pv : Value) (s : Bs) (h : RB w base R room s.la s.fl av pv s.all s.pins) (hbs : base ≤ w.heap.size) (hal : s.all.length ≤ 65536) (hla : 0 ≤ s.la ∧ s.la ≤ 1099511627776) (ao : Option Addr) (n c : Nat) (L : List (List K)) (hn : n = L.length) (hw : RWs (fun k => base ≤ k) w ao L) (hb : ∀ s ∈ L, s.length ≤ 8796093022208) (hnb : n ≤ 1000000000000) :
    Calls Tryz.prog 19 #[ptr R, .slice ao n c] w fun e w' => RAdmPost w base R room av pv s L e w' := by
  have HR := hidC h
  have HN := hidC (And.intro hn (And.intro hbs hb))
  have HL : Hid (∀ W, Fr (fun k => base ≤ k) w W → RWs (fun k => base ≤ k) W ao L) := fun W hW => hw.fr hW
  have HSf : Hid (∀ W, Fr (SR R av pv) w W → Fr (fun k => base ≤ k) w W) := fun W hW => ⟨hW.os, hW.tape, hW.output, hW.size, fun k hk hS => hW.block k hk (fun h1 => hS (h.geS h1))⟩
  obtain ⟨la, hlae⟩ : ∃ la, la = s.la := ⟨_, rfl⟩
  have HLa := hidC hlae
  rw [← hlae] at hla
  clear h hn hbs hb hw hlae
  by_cases h64 : 64 < n
  · have h64b : (64 : Int) < (n : Int) := by omega
    have HZ : Hid (RAdmPost w base R room av pv s L (.returned (.tuple #[.int .i64 0, .int .i64 60])) w) := RAdmPost.no (by
      have hf : formN L = 60 := by unfold formN; rw [if_pos (by have := HN.out.1; omega)]
      unfold admE
      rw [hf, if_pos (by omega)]) (by omega) (Below.refl _ _)
    go_enter Tryz.func19, Tryz.ntmps19
    go_wp2
    go_ret2
    exact HZ.out
  have h64b : ¬ (64 : Int) < (n : Int) := by omega
  have HE : Hid (formN L = formL L) := by show _ = _; unfold formN; rw [if_neg (by have := HN.out.1; omega)]
  go_enter Tryz.func19, Tryz.ntmps19
  go_wp2_with fail
  go_loopw [6, 7, 8] (fun xs x _ wr => ∃ (i q : Nat), i ≤ n ∧ q ≤ 16 * i ∧ xs = .int .i64 (q : Int) ∧ x = .int .i64 (i : Int) ∧ Hid (q = wgt (L.take i) ∧ formL (L.drop i) = formL L ∧ (∀ s ∈ L.take i, s.length ≤ 16) ∧ Below w.heap.size w wr)) (fun _ x _ _ => n - (intOf x).toNat)
  case atStart => exact ⟨0, 0, Nat.zero_le _, Nat.zero_le _, rfl, rfl, rfl, rfl, by simp, Below.refl _ _⟩
  case round =>
    obtain ⟨i, q, hi, hq, rfl, rfl, HI⟩ := hrel
    by_cases hlt : i < n
    · have hil : i < L.length := by have := HN.out.1; omega
      obtain ⟨b, off, sa, sc, rfl, _, _, c1, hk, _⟩ := HL.out wr (Fr.ofBelow HI.out.2.2.2) i hil
      have HD : Hid (formL (L.drop i) = if 16 < L[i].length then 64 else if Rise L[i] then formL (L.drop (i + 1)) else 65) := by
        show _ = _
        rw [List.drop_eq_getElem_cons hil]
        rfl
      have HRi := hidC (refRises_any wr sa sc L[i].length L[i] rfl hk (HN.out.2.2 _ (List.getElem_mem hil)))
      have hsb : L[i].length ≤ 8796093022208 := HN.out.2.2 _ (List.getElem_mem hil)
      have HWt : Hid (wgt (L.take (i + 1)) = wgt (L.take i) + L[i].length) := wgt_take hil
      have HTk : Hid (L.take (i + 1) = L.take i ++ [L[i]]) := List.take_succ_eq_append_getElem hil
      have HC1 : Hid (∀ W, Below wr.heap.size wr W → W.cell? ⟨b, off + i, none⟩ = some (.slice sa L[i].length sc)) := fun W hW => (hW.cell (p := ⟨b, off + i, none⟩) (cell_lt c1)).trans c1
      clear hk
      generalize hs : L[i] = s1 at *
      obtain ⟨m, hm⟩ : ∃ m, m = s1.length := ⟨_, rfl⟩
      have HM := hidC hm
      rw [← hm] at c1 HRi hsb HWt HC1
      clear hs hm hil
      have hii : (i : Int) < (n : Int) := by omega
      by_cases h16 : 16 < m
      · have h16b : (16 : Int) < (m : Int) := by omega
        have HZ : Hid (RAdmPost w base R room av pv s L (.returned (.tuple #[.int .i64 0, .int .i64 64])) wr) := RAdmPost.no (by
          have hf : formN L = 64 := by rw [HE.out, ← HI.out.2.1, HD.out, if_pos (by have := HM.out; omega)]
          unfold admE
          rw [hf, if_pos (by omega)]) (by omega) HI.out.2.2.2
        clear HRi HI HC1
        go_wp2
        go_ret2
        exact HZ.out
      · have h16b : ¬ (16 : Int) < (m : Int) := by omega
        go_wp2_with fail
        refine HRi.out.mono ?_
        rintro e W2 ⟨rfl, q2, os, hW2⟩
        have hbw : Below wr.heap.size wr W2 := by rw [hW2]; exact Grew.below ⟨q2, os, rfl⟩
        have HB2 : Hid (Below w.heap.size w W2) := HI.out.2.2.2.trans (hbw.mono HI.out.2.2.2.size)
        have d1 := HC1.out W2 hbw
        clear hW2 HRi hbw HC1 c1
        by_cases hr : Rise s1
        · rw [decide_eq_true hr]
          have HX : Hid (q + m = wgt (L.take (i + 1)) ∧ formL (L.drop (i + 1)) = formL L ∧ (∀ s ∈ L.take (i + 1), s.length ≤ 16) ∧ Below w.heap.size w W2) := by
            refine ⟨by rw [HWt.out, HI.out.1], by rw [← HI.out.2.1, HD.out, if_neg (by have := HM.out; omega), if_pos hr], fun t ht => ?_, HB2.out⟩
            rw [HTk.out] at ht
            rcases List.mem_append.1 ht with ht | ht
            · exact HI.out.2.2.1 t ht
            · simp at ht; rw [ht, ← HM.out]; omega
          have hwp : IntKind.i64.wrap ((q : Int) + (m : Int)) = (q : Int) + (m : Int) := by rw [IntKind.wrap_i64]; omega
          clear HI HD hr HWt HTk
          go_wp2
          exact ⟨⟨i + 1, q + m, by omega, by omega, by first | rfl | (rw [Int.natCast_add]) | (simp), by go_num, HX.out⟩, by simp [intOf]; omega⟩
        · rw [decide_eq_false hr]
          have HZ : Hid (RAdmPost w base R room av pv s L (.returned (.tuple #[.int .i64 0, .int .i64 65])) W2) := RAdmPost.no (by
            have hf : formN L = 65 := by rw [HE.out, ← HI.out.2.1, HD.out, if_neg (by have := HM.out; omega), if_neg hr]
            unfold admE
            rw [hf, if_pos (by omega)]) (by omega) HB2.out
          clear HI HD hr HWt HTk
          go_wp2
          go_ret2
          exact HZ.out
    · have HF0 : Hid (formN L = 0) := by
        show _ = _
        rw [HE.out, ← HI.out.2.1, List.drop_eq_nil_of_le (by have := HN.out.1; omega)]
        rfl
      have HQ : Hid (q = wgt L) := by
        have h3 := HI.out.1
        rw [List.take_of_length_le (by have := HN.out.1; omega)] at h3
        exact h3
      have HB1 := hidC HI.out.2.2.2
      obtain ⟨aa, an, ac, hav, han⟩ := rowOpenD HR.out.ra
      have hR1 := HR.out.kept HI.out.2.2.2
      obtain ⟨c0, c1, _, c3, _⟩ := hR1.cells
      rw [hav] at c3
      have HAn := hidC han
      have han2 : an ≤ 65536 := by omega
      have hn64 : n ≤ 64 := by omega
      rw [← HLa.out] at c1
      clear HI hav hR1 han
      by_cases hl : la = 1099511627776
      · have hlb : (la == 1099511627776) = true := by simpa using hl
        have HZ : Hid (RAdmPost w base R room av pv s L (.returned (.tuple #[.int .i64 0, .int .i64 101])) wr) := RAdmPost.no (by
          unfold admE
          rw [HF0.out, if_neg (by omega), if_pos (by rw [← HLa.out]; exact hl)]) (by omega) HB1.out
        clear hl
        go_wp2
        go_ret2
        exact HZ.out
      have hlb : (la == 1099511627776) = false := by simpa using hl
      have hwp : IntKind.i64.wrap ((an : Int) + (q : Int)) = (an : Int) + (q : Int) := by rw [IntKind.wrap_i64]; omega
      go_upto_region 15 with fail
      go_quiet (fail)
      have HB2 : Hid (Below w.heap.size w (wr.drewN nq)) := HB1.out.trans ((drew_below wr nq).mono HB1.out.size)
      generalize wr.drewN nq = W2 at *
      have hR2 := HR.out.kept HB2.out
      have d1 := hR2.cells.2.1
      have df := hR2.frozen 1
      rw [← HLa.out] at d1
      by_cases hcap : room < (an : Int) + (q : Int)
      · have hcb : decide (room < (an : Int) + (q : Int)) = true := decide_eq_true hcap
        have HZ : Hid (RAdmPost w base R room av pv s L (.returned (.tuple #[.int .i64 0, .int .i64 100])) W2) := RAdmPost.no (by
          unfold admE
          rw [HF0.out, if_neg (by omega), if_neg (by rw [← HLa.out]; exact hl), if_pos (by rw [← HAn.out, ← HQ.out]; exact hcap)]) (by omega) HB2.out
        clear hR2 d1 df c0 c1 c3
        go_wp2
        go_ret2
        exact HZ.out
      have hcb : decide (room < (an : Int) + (q : Int)) = false := decide_eq_false hcap
      have HE0 : Hid (admE room s.la s.all L = 0) := by
        show _ = _
        unfold admE
        rw [HF0.out, if_neg (by omega), if_neg (by rw [← HLa.out]; exact hl), if_neg (by rw [← HAn.out, ← HQ.out]; exact hcap)]
      have hlw : IntKind.i64.wrap (la + 1) = la + 1 := by rw [IntKind.wrap_i64]; omega
      have HR3 : Hid (RPost w base R room av pv ⟨la + 1, s.fl, s.pins, s.all⟩ (W2.setCell ⟨R, 1, none⟩ (.int .i64 (la + 1)))) :=
        ⟨av, pv, hR2.setLast (la + 1), (Fr.ofBelow HB2.out).set ⟨R, 1, none⟩ _ (.inr (.inl rfl)), fun k hk => .inl hk⟩
      have HOk := hidC (formN_ok HF0.out)
      have HQl : Hid (wgt L ≤ 1024) := wgt_le HOk.out.1 (fun s hs => (HOk.out.2 s hs).1)
      clear hR2 c0 c1 c3 HB1 hl
      go_wp2_with fail
      generalize W2.setCell ⟨R, 1, none⟩ (.int .i64 (la + 1)) = W3 at *
      clear d1 df
      go_loopw [9, 10] (fun x _ wr => ∃ i : Nat, i ≤ n ∧ x = .int .i64 (i : Int) ∧ RPost w base R room av pv ⟨la + 1, s.fl, s.pins, s.all ++ newFrom (la + 1) 0 (L.take i)⟩ wr) (fun x _ _ => n - (intOf x).toNat)
      case atStart => exact ⟨0, Nat.zero_le _, rfl, by simpa [newFrom] using HR3.out⟩
      case round =>
        clear HR3 HB2
        obtain ⟨i, hi, rfl, hI⟩ := hrel
        have HI := hidC hI
        clear hI
        obtain ⟨wo, hwo⟩ : ∃ wo, wo = wr := ⟨_, rfl⟩
        subst hwo
        by_cases hlt : i < n
        · have hil : i < L.length := by have := HN.out.1; omega
          have HFo : Hid (Fr (fun k => base ≤ k) w wo) := by
            obtain ⟨_, _, _, h2, _⟩ := HI.out
            exact HSf.out _ h2
          obtain ⟨b, off, sa, sc, rfl, hsa, hrow⟩ := (HL.out w (Fr.refl _ _)).at hil
          have HRow := hidC hrow
          have HSa := hidC hsa
          have hc1 := (hrow wo HFo.out).1
          obtain ⟨s1, hs⟩ : ∃ s1, s1 = L[i] := ⟨_, rfl⟩
          have HS : Hid (∃ hi : i < L.length, s1 = L[i]) := ⟨hil, hs⟩
          rw [← hs] at hc1 HRow HSa
          obtain ⟨m, hm⟩ : ∃ m, m = s1.length := ⟨_, rfl⟩
          have HM := hidC hm
          rw [← hm] at hc1 HRow
          have hm16 : m ≤ 16 := by rw [hm, hs]; exact (HOk.out.2 _ (List.getElem_mem hil)).1
          have HWl : Hid (wgt (L.take i) ≤ 1024) := Nat.le_trans (wgt_take_le L i) HQl.out
          clear hrow hsa hs hm hil
          have hii : (i : Int) < (n : Int) := by omega
          go_wp2_with fail
          go_loopw [10] (fun x wr => ∃ j : Nat, j ≤ m ∧ x = .int .i64 (j : Int) ∧ RPost w base R room av pv ⟨la + 1, s.fl, s.pins, s.all ++ newFrom (la + 1) 0 (L.take i) ++ setV (la + 1) i (s1.take j)⟩ wr) (fun x _ => m - (intOf x).toNat)
          case atStart => exact ⟨0, Nat.zero_le _, rfl, by simpa [setV] using HI.out⟩
          case round =>
            clear HI hc1
            obtain ⟨j, hj, rfl, hJ⟩ := hrel
            have HJ := hidC hJ
            have HFj : Hid (Fr (fun k => base ≤ k) w wr) := by
              obtain ⟨_, _, _, h2, _⟩ := hJ
              exact HSf.out _ h2
            have hc1 := (HRow.out wr HFj.out).1
            by_cases hjm : j < m
            · have hjs : j < s1.length := by have := HM.out; omega
              obtain ⟨kb, ko, hsa⟩ := HSa.out j hjs
              subst hsa
              obtain ⟨k, hk⟩ : ∃ k, s1[j] = k := ⟨_, rfl⟩
              have HTs := hidC (setV_take (n := la + 1) (i := (i : Int)) hjs)
              rw [hk] at HTs
              obtain ⟨k1, k2⟩ := k
              obtain ⟨d1, d2⟩ := keyCells (HRow.out wr HFj.out).2 (j := j) (k := (k1, k2)) ⟨hjs, hk⟩
              obtain ⟨av', v2, w2, y0, y1, ⟨a2, n2, c2, rfl⟩, ⟨a1, n1, c1', rfl⟩, y4, y5, y6⟩ := hJ.push ((k1, k2), (la + 1, (i : Int))) (by
                have h1 := HWl.out
                simp only [List.length_append, newFrom_len, setV, List.length_map, List.length_take]
                have : min j s1.length ≤ 16 := by have := HM.out; omega
                omega) HN.out.2.1 72
              have HNx : Hid (RPost w base R room av pv ⟨la + 1, s.fl, s.pins, s.all ++ newFrom (la + 1) 0 (L.take i) ++ setV (la + 1) i (s1.take (j + 1))⟩ (w2.setCell ⟨R, 3, none⟩ (.slice a2 n2 c2))) := by
                rw [HTs.out, ← List.append_assoc]
                exact y6
              have r1 : wr.cell? ⟨R, 1, none⟩ = some (.int .i64 (la + 1)) := by
                obtain ⟨_, _, h2, _⟩ := hJ
                exact h2.cells.2.1
              have y0d : ∀ o, (wr.drew.alloc o).cell? ⟨R, 3, none⟩ = some (.slice a1 n1 c1') := fun o => Lib.cell?_alloc_some _ y0
              have y0e : ∀ o, (wr.alloc o).cell? ⟨R, 3, none⟩ = some (.slice a1 n1 c1') := fun o => Lib.cell?_alloc_some _ y0
              have hjj : (j : Int) < (m : Int) := by omega
              clear hJ HJ HFj hk hjs y6 HTs
              simp [go_sem] at y1
              go_wp2_with fail
              go_region
              clear y1 y0 y0d y0e y4 y5 r1 d1 d2 hc1
              go_wp2
              exact ⟨⟨j + 1, by omega, by go_num, HNx.out⟩, by simp [intOf]; omega⟩
            · have HNx : Hid (RPost w base R room av pv ⟨la + 1, s.fl, s.pins, s.all ++ newFrom (la + 1) 0 (L.take (i + 1))⟩ wr) := by
                obtain ⟨hil, hs⟩ := HS.out
                have h1 := HJ.out
                rw [show s1.take j = s1 from List.take_of_length_le (by have := HM.out; omega), List.append_assoc, hs, ← newFrom_take hil] at h1
                exact h1
              clear HJ hJ
              go_wp2
              exact ⟨⟨i + 1, by omega, by go_num, HNx.out⟩, by simp [intOf]; omega⟩
        · have HZ : Hid (RAdmPost w base R room av pv s L (.returned (.tuple #[.int .i64 (la + 1), .int .i64 0])) wo) := by
            have h1 := HI.out
            rw [List.take_of_length_le (by have := HN.out.1; omega)] at h1
            refine .inr ⟨HE0.out, by rw [HLa.out], ?_⟩
            rw [← HLa.out]
            exact h1
          have r1 : wo.cell? ⟨R, 1, none⟩ = some (.int .i64 (la + 1)) := by
            obtain ⟨_, _, h2, _⟩ := HI.out
            exact h2.cells.2.1
          clear HI
          go_wp2
          go_ret2
          exact HZ.out
end Go.Proofs.YtbmohlkcmhhpgaaGreat
