import Derived.Test.YtlilaicgmdbhcaaJ23
import Derived.Test.YtlilaicgmdbhcaaJ12
import Derived.Test.YtlilaicgmdbhcaaJ24
import Derived.Test.YtlilaicgmdbhcaaJ25
import Derived.Deep.DeepCutAuto
/-
  THE WALK OF preluderef06.keys.
-/
namespace Go.Proofs.Ytlilaicgmdbhcaa.Kk
open Go.RowKit Go.Sort

/-- the document's Reader, and a list of keys of the call's own -/
structure KM (w W : World) (r : Nat) (ad : Option Addr) (c : Nat) (b : List Nat) (q : Nat) (x : Int) (v : Value) (L : List K) : Prop where
  rd : IsMod W r ad c b q x
  gr : w.grownBy W (some r)
  own : OwnK W w.heap.size v L
  r2 : r < w.heap.size
  bl : ∀ x, b ≠ [] → ad = some x → x.block < w.heap.size
section
variable {w W W' : World} {r : Nat} {ad : Option Addr} {c : Nat} {b : List Nat} {q q2 : Nat} {x x2 : Int} {v v' : Value} {L L' : List K}
theorem KM.step (h : KM w W r ad c b q x v L) (hr : Mods W r ad c b q2 x2 W') : KM w W' r ad c b q2 x2 v L :=
  ⟨hr.1, grown_trans' h.gr hr.2, h.own.same (fun g hg => hr.2.block g (h.own.lt g hg).2 (fun e => by cases e; have := (h.own.lt _ hg).1; have := h.r2; omega)), h.r2, h.bl⟩
theorem KM.kept (h : KM w W r ad c b q x v L) (hb : Below W.heap.size W W') : KM w W' r ad c b q x v L :=
  ⟨h.rd.kept hb, ⟨hb.os.trans h.gr.os, hb.tape.trans h.gr.tape, hb.output.trans h.gr.output, Nat.le_trans h.gr.size hb.size, fun k hk hr => (hb.block k (Nat.lt_of_lt_of_le hk h.gr.size)).trans (h.gr.block k hk hr)⟩, h.own.kept hb, h.r2, h.bl⟩
theorem KM.put (h : KM w W r ad c b q x v L) (ho : OwnK W' w.heap.size v' L') (hg : W.grownBy W' v.ownBlock) : KM w W' r ad c b q x v' L' := by
  have hown : ∀ k, v.ownBlock = some k → w.heap.size ≤ k := fun k hk => (h.own.lt k hk).1
  have hr2 := h.r2
  refine ⟨h.rd.grown hg (fun e => by have := hown r e; omega) (fun k hk y h0 hy e => by have := hown k hk; have := h.bl y h0 hy; omega), ?_, ho, h.r2, h.bl⟩
  exact ⟨hg.os.trans h.gr.os, hg.tape.trans h.gr.tape, hg.output.trans h.gr.output, Nat.le_trans h.gr.size hg.size, fun k hk hr => by
    rw [hg.block k (Nat.lt_of_lt_of_le hk h.gr.size) (fun e => by have := hown k e.symm; omega), h.gr.block k hk hr]⟩
end
theorem blk_lt4 {w : World} {k : Nat} {o : Obj} (h : w.heap[k]? = some o) : k < w.heap.size := (Array.getElem?_eq_some_iff.1 h).1
/-- what keys answers -/
def KPost (w : World) (r : Nat) (ad : Option Addr) (c : Nat) (b : List Nat) (p : Nat) (e : Int) (most : Nat) (e' : Ending) (W : World) : Prop :=
  ∃ ao cap L q x, e' = .returned (.slice ao L.length cap) ∧ OwnK W w.heap.size (.slice ao L.length cap) L ∧ Mods w r ad c b q x W ∧ L.length ≤ most ∧ St (if e = 0 then setR b most p else .error (p, e)) (.ok (L, q)) q x
theorem KM.fin {w W : World} {r : Nat} {ad : Option Addr} {c : Nat} {b : List Nat} {q p : Nat} {x e : Int} {ao : Option Addr} {n cap most : Nat} {L : List K} (h : KM w W r ad c b q x (.slice ao n cap) L) (hn : L.length = n) (hm : n ≤ most) (hs : St (if e = 0 then setR b most p else .error (p, e)) (.ok (L, q)) q x) : KPost w r ad c b p e most (.returned (.slice ao n cap)) W := by
  subst hn
  exact ⟨ao, cap, L, q, x, rfl, h.own, ⟨h.rd, h.gr⟩, hm, hs⟩
theorem KM.nil {w W : World} {r : Nat} {ad : Option Addr} {c : Nat} {b : List Nat} {q p : Nat} {x e : Int} {v : Value} {most : Nat} {L : List K} (h : KM w W r ad c b q x v L) (hx : x ≠ 0) {rest : Rd (List K)} (hs : St (if e = 0 then setR b most p else .error (p, e)) rest q x) : KPost w r ad c b p e most (.returned (.slice none 0 0)) W :=
  ⟨none, 0, [], q, x, rfl, OwnK.nil _ _, ⟨h.rd, h.gr⟩, Nat.zero_le _, hs.more hx⟩

set_option maxRecDepth 100000 in
set_option maxHeartbeats 2000000 in
theorem refKeys_any (w : World) (r : Nat) (ad : Option Addr) (c : Nat) (b : List Nat) (p : Nat) (e : Int) (most : Nat) (h : IsMod w r ad c b p e) (hm : most ≤ 16) :
    Calls Try.prog 66 #[.pointer (some ⟨r, 0, none⟩), .int .u64 (most : Int)] w fun e' w' => KPost w r ad c b p e most e' w' := by
  have HR : Hid (IsMod w r ad c b p e) := h
  have HZ : Hid (∀ z ∈ b, z < 256) := h.2.1.1
  have hbl := h.2.2.2.1
  clear h
  go_enter Try.func66, Try.ntmps66
  go_wp2_with fail
  obtain ⟨⟨n, q0, e0⟩, hx⟩ : ∃ x, x = rdUpto b p e most := ⟨_, rfl⟩
  have HX : Hid (rdUpto b p e most = (n, q0, e0)) := hx.symm
  have hn : n ≤ most := by have := rdUpto_le b p e most; rw [HX.out] at this; exact this
  have HS0 : Hid (St (if e = 0 then setR b most p else .error (p, e)) (keysR b n [] q0) q0 e0) := by
    have := St.upE (S := setR b most p) (f := fun x => keysR b x.1 [] x.2) e (setR_def b most p)
    rw [HX.out] at this
    exact this
  clear hx
  refine (uUpto_any w r ad c b p e most HR.out).mono ?_
  rintro e1 w1 ⟨rfl, hr1⟩
  rw [HX.out] at hr1 ⊢
  have HK1 : Hid (KM w w1 r ad c b q0 e0 (.slice none 0 0) []) := ⟨hr1.1, hr1.2, OwnK.nil _ _, HR.out.lt, HR.out.2.1.lt⟩
  clear hr1 HR HX
  go_wp2_with fail
  go_loopw [6, 7] (fun v i wr => ∃ k : Nat, k ≤ n ∧ i = .int .u64 (k : Int) ∧ ∃ av cv q x, v = .slice av k cv ∧ ∃ L, Hid (KM w wr r ad c b q x (.slice av k cv) L) ∧ Hid (L.length = k ∧ St (if e = 0 then setR b most p else .error (p, e)) (keysR b (n - k) L q) q x)) (fun _ i _ => n - (intOf i).toNat)
  case atStart => exact ⟨0, Nat.zero_le _, rfl, none, 0, q0, e0, rfl, [], HK1, rfl, HS0.out⟩
  case round =>
    clear HK1 HS0
    obtain ⟨k, hk, rfl, av, cv, q, x, rfl, L, HK, HS⟩ := hrel
    have x2 := HK.out.rd.c2
    have x1 := HK.out.rd.c1
    by_cases hlt : k < n
    · have hlt' : (k : Int) < (n : Int) := by omega
      by_cases he : x = 0
      · subst he
        have hq := HK.out.rd.2.2.1
        go_wp2_with fail
        refine (uRaw_any wr r ad c b q 0 10 HK.out.rd).mono ?_
        rintro e1 w2 ⟨v2, rfl, ho2, hr2⟩
        have HRw := rdRaw10 b q hq
        by_cases hs : q + 10 ≤ b.length
        · rw [if_pos hs] at HRw
          rw [HRw] at ho2 hr2
          have HK2 : Hid (KM w w2 r ad c b (q + 10) 0 (.slice av k cv) L) := HK.out.step hr2
          have hten : ((b.drop q).take 10).length = 10 := by simp; omega
          obtain ⟨a2, c2, rfl, hb2, _, hc2⟩ := ho2.slice
          rw [hten] at hc2 ⊢
          have HF := refFromBytes_any w2 a2 c2 10 ((b.drop q).take 10) hten.symm hb2 hc2 (by unfold maxLen; omega)
          obtain ⟨⟨k1, k2⟩, hkk⟩ : ∃ y, y = fromK ((b.drop q).take 10) := ⟨_, rfl⟩
          rw [← hkk] at HF
          have HS2 : Hid (keysR b (n - k) L q = if L ≠ [] ∧ lt (kd L (L.length - 1)) (k1, k2) = false then .error (q, 65) else keysR b (n - (k + 1)) (L ++ [(k1, k2)]) (q + 10)) := by
            rw [show n - k = (n - (k + 1)) + 1 by omega]
            show keysR b (n - (k + 1) + 1) L q = _
            rw [keysR_next hs, ← hkk]
          have d2 := HK2.out.rd.c2
          generalize fromE ((b.drop q).take 10) = fe at *
          clear ho2 hr2 HRw hb2 hten hkk hs x1 x2 HK
          go_wp2_with fail
          refine HF.mono ?_
          rintro e1 w3 ⟨rfl, hg3⟩
          have HK3 : Hid (KM w w3 r ad c b (q + 10) 0 (.slice av k cv) L) := HK2.out.kept hg3.below
          have HK4 : Hid (KM w (w3.alloc (.cells #[.int .i64 k1, .int .i64 k2] 77)) r ad c b (q + 10) 0 (.slice av k cv) L) := HK3.out.kept ((Below.refl _ _).alloc (Nat.le_refl _) _)
          have HB4 : Hid ((w3.alloc (.cells #[.int .i64 k1, .int .i64 k2] 77)).heap[w3.heap.size]? = some (.cells #[.int .i64 k1, .int .i64 k2] 77 (0, 0))) := heap_alloc_new _ _ rfl
          clear HK2 HK3 HF hg3 d2
          go_upto_region 11 with fail
          generalize w3.alloc (.cells #[.int .i64 k1, .int .i64 k2] 77) = w4 at *
          generalize w3.heap.size = B4 at *
          have hLk : L.length = k := HS.out.1
          have y1 : w4.cell? ⟨B4, 0, none⟩ = some (.int .i64 k1) := by rw [World.cell?, HB4.out]; rfl
          have y2 : w4.cell? ⟨B4, 1, none⟩ = some (.int .i64 k2) := by rw [World.cell?, HB4.out]; rfl
          have HLk : Hid (L.length = k) := hLk
          clear hLk
          go_cut [56] from 15 to 67 (fun u wx => ∃ t : Bool, u = .bool t ∧ Hid (t = decide (L ≠ [] ∧ lt (kd L (L.length - 1)) (k1, k2) = false)) ∧ Hid (Grew w4 wx))
          case first =>
            by_cases hk0 : k = 0
            · have HT : Hid (false = decide (L ≠ [] ∧ lt (kd L (L.length - 1)) (k1, k2) = false)) := (decide_eq_false (fun h => h.1 (List.eq_nil_of_length_eq_zero (by rw [HLk.out, hk0])))).symm
              subst hk0
              go_wp2_with fail
              go_quiet (fail)
              have HG : Hid (Grew w4 (w4.drewN nq)) := (Grew.refl _).drewN nq
              go_wp2_with fail
              go_meet
              case rel => exact ⟨false, rfl, HT, HG⟩
            · have hk1 : 0 < k := by omega
              have hki : (0 : Int) < (k : Int) := by omega
              have hkd : decide ((0 : Int) < (k : Int)) = true := by simp; omega
              have hkd2 : decide (0 < k) = true := by simp; omega
              obtain ⟨ao', cap', e', hkat, hn1, hn2⟩ := HK4.out.own.slice
              simp only [Value.slice.injEq] at e'
              obtain ⟨rfl, hn3, rfl⟩ := e'
              clear hn1 hn2 hn3
              obtain ⟨g, off, rfl, z1, z2⟩ := hkat.get (k - 1) (by rw [HLk.out]; omega)
              have HT0 : Hid (L ≠ []) := fun h => by have := HLk.out; rw [h] at this; simp at this; omega
              have HZk : Hid (kd L (L.length - 1) = kd L (k - 1)) := by rw [Hid, HLk.out]
              generalize kd L (k - 1) = z at *
              obtain ⟨u1, u2⟩ := z
              simp only at z1 z2
              have HCm : Hid (∀ w, Calls Try.prog 71 #[.agg #[.int .i64 u1, .int .i64 u2], .agg #[.int .i64 k1, .int .i64 k2]] w fun e w' => e = .returned (.int .i64 (cmp (u1, u2) (k1, k2))) ∧ ∃ q os, w' = grow (w.drewN q) os) := fun w => refCompare_any w _ _ _ _
              have HD : Hid (decide (0 ≤ cmp (u1, u2) (k1, k2)) = decide (L ≠ [] ∧ lt (kd L (L.length - 1)) (k1, k2) = false)) := by
                rw [HZk.out]
                have h1 := cmp_neg (u1, u2) (k1, k2)
                have h0 := HT0.out
                rw [Hid, decide_eq_decide]
                cases hl : lt (u1, u2) (k1, k2) with
                | true => rw [hl] at h1; have := h1.2 rfl; simp; omega
                | false => rw [hl] at h1; simp [h0]; simp at h1; exact h1
              generalize cmp (u1, u2) (k1, k2) = cc at *
              have g1 : ∀ n os, (grow (w4.drewN n) os).cell? ⟨g, off + (k - 1) * 2, none⟩ = some (.int .i64 u1) := fun n os => Grew.cell ⟨n, os, rfl⟩ z1
              have g2 : ∀ n os, (grow (w4.drewN n) os).cell? ⟨g, off + (k - 1) * 2 + 1, none⟩ = some (.int .i64 u2) := fun n os => Grew.cell ⟨n, os, rfl⟩ z2
              have q1 : ∀ n os, (grow (w4.drewN n) os).cell? ⟨B4, 0, none⟩ = some (.int .i64 k1) := fun n os => Grew.cell ⟨n, os, rfl⟩ y1
              have q2 : ∀ n os, (grow (w4.drewN n) os).cell? ⟨B4, 1, none⟩ = some (.int .i64 k2) := fun n os => Grew.cell ⟨n, os, rfl⟩ y2
              have hsub : (k : Int) - 1 = ((k - 1 : Nat) : Int) := by omega
              have hidx : (k - 1) < k := by omega
              clear z1 z2 y1 y2
              go_wp2_with fail
              refine wp_region_quiet_grown mixed (by kernel_rfl) ?_
              repeat (go_big_quiet_step ((go_at_call 71; exact Calls.grown_of (HCm.out _))))
              refine wpQuiet_nil ?_
              intro _ hw'
              obtain ⟨⟨nq, osq⟩, hw''⟩ := hw'
              subst hw''
              have HG : Hid (Grew w4 (grow (w4.drewN nq) osq)) := ⟨_, _, rfl⟩
              go_wp2_with fail
              go_meet
              case rel => exact ⟨_, rfl, HD, HG⟩
          obtain ⟨t, rfl, HT, HG⟩ := hcut
          generalize wc = w5 at *
          have HK5 : Hid (KM w w5 r ad c b (q + 10) 0 (.slice av k cv) L) := HK4.out.kept HG.out.below
          have HB5 : Hid (w5.heap[B4]? = some (.cells #[.int .i64 k1, .int .i64 k2] 77 (0, 0))) := (HG.out.heap (blk_lt4 HB4.out)).trans HB4.out
          clear HK4 HB4 y1 y2 HG
          cases t with
          | true =>
            have f1 := HK5.out.rd.frozen 1
            have f2 := HK5.out.rd.frozen 2
            have d1 := HK5.out.rd.c1
            have d2 := HK5.out.rd.c2
            have HF2 : Hid (KPost w r ad c b p e most (.returned (.slice none 0 0)) ((w5.setCell ⟨r, 1, none⟩ (.int .i64 (q : Int))).setCell ⟨r, 2, none⟩ (.int .i64 65))) := by
              have h1 : Mods w5 r ad c b q 65 ((w5.setCell ⟨r, 1, none⟩ (.int .i64 (q : Int))).setCell ⟨r, 2, none⟩ (.int .i64 65)) := ⟨(HK5.out.rd.setAt q hq).setErr 65, grown_trans' (grown_setCell w5 ⟨r, 1, none⟩ _) (grown_setCell _ ⟨r, 2, none⟩ _)⟩
              have h2 := HS.out.2
              have h3 := of_decide_eq_true HT.out.symm
              rw [HS2.out, if_pos h3] at h2
              exact (HK5.out.step h1).nil (by decide) (rest := .error (q, 65)) (.inr ⟨by decide, h2.zero⟩)
            clear HK5 HS HS2 HT HB5
            go_wp2
            go_ret
            exact HF2.out
          | false =>
            have y1 : w5.cell? ⟨B4, 0, none⟩ = some (.int .i64 k1) := by rw [World.cell?, HB5.out]; rfl
            have y2 : w5.cell? ⟨B4, 1, none⟩ = some (.int .i64 k2) := by rw [World.cell?, HB5.out]; rfl
            have hsz : w.heap.size ≤ w5.heap.size := HK5.out.gr.size
            go_wp2_with (at_builtin; refine wpList_append_keys rfl _ _ rfl w.heap.size (.slice av k cv) L rfl (HK5.out.own.alloc _) _ 1 1 [(k1, k2)] rfl rfl (key_src w5 _ k1 k2 rfl) (by simp) (by have := HLk.out; simp; omega) (by simp only [World.size_alloc]; omega) ?_; intro v8 w8 ho8 hg8 hv8)
            have HK8 : Hid (KM w w8 r ad c b (q + 10) 0 v8 (L ++ [(k1, k2)])) := (HK5.out.kept ((Below.refl _ _).alloc (Nat.le_refl _) _)).put ho8 hg8
            obtain ⟨a8, c8, rfl, _, _, _⟩ := ho8.slice
            have hl8 : (L ++ [(k1, k2)]).length = k + 1 := by rw [List.length_append, HLk.out]; rfl
            rw [hl8] at HK8 ⊢
            have HS8 : Hid ((L ++ [(k1, k2)]).length = k + 1 ∧ St (if e = 0 then setR b most p else .error (p, e)) (keysR b (n - (k + 1)) (L ++ [(k1, k2)]) (q + 10)) (q + 10) 0) := by
              refine ⟨hl8, .inl ⟨rfl, ?_⟩⟩
              have h2 := HS.out.2.zero
              rw [h2, HS2.out, if_neg (of_decide_eq_false HT.out.symm)]
            clear ho8 hg8 hv8 hl8 HK5 HS HS2 HT HB5 y1 y2
            go_wp2
            go_roundw
            case rel => exact ⟨k + 1, by omega, by go_num, a8, c8, q + 10, 0, rfl, _, HK8, HS8⟩
            case measure => simp [intOf]; omega
        · rw [if_neg hs] at HRw
          rw [HRw] at ho2 hr2
          have HK2 : Hid (KM w w2 r ad c b q 10 (.slice av k cv) L) := HK.out.step hr2
          have d2 := HK2.out.rd.c2
          have HF2 : Hid (KPost w r ad c b p e most (.returned (.slice none 0 0)) w2) := by
            have h2 := HS.out.2
            rw [show n - k = (n - (k + 1)) + 1 by omega, keysR_short hs] at h2
            exact HK2.out.nil (by decide) (rest := .error (q, 10)) (.inr ⟨by decide, h2.zero⟩)
          obtain ⟨a2, c2, rfl, hb2, _, hc2⟩ := ho2.slice
          clear ho2 hr2 HRw hb2 hs HK HS HK2 x1 x2
          go_wp2
          go_ret
          exact HF2.out
      · have he' : (x == 0) = false := by simpa using he
        have HF : Hid (KPost w r ad c b p e most (.returned (.slice av k cv)) wr) := HK.out.fin HS.out.1 (by omega) (HS.out.2.more he)
        clear HK HS he
        go_wp2
        go_ret
        exact HF.out
    · obtain rfl : k = n := by omega
      have HF : Hid (KPost w r ad c b p e most (.returned (.slice av k cv)) wr) := by
        refine HK.out.fin HS.out.1 hn ?_
        have := HS.out.2
        rw [Nat.sub_self] at this
        exact this
      clear HK HS
      go_wp2
      go_ret
      exact HF.out
end Go.Proofs.Ytlilaicgmdbhcaa.Kk
