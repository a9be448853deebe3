import Derived.Test.YtkjmeknaedapjaaDoorJ26
import Derived.Test.YtkjmeknaedapjaaDoorJ19
import Derived.Test.YtkjmeknaedapjaaDoorJ21
import Derived.Deep.QuietTactic
import Derived.Test.YtkjmeknaedapjaaDoorJ22
import Derived.Test.YtkjmeknaedapjaaDoorJ27
import Derived.Test.YtkjmeknaedapjaaDoorJ16
import Derived.Laws.OwnMore
import Derived.Deep.DeepAppendRoom
/-
  THE WALKS OF preluderef01.Reader's METHODS over bytes that are not its own: Bytes, End.
-/
namespace Go.Proofs.YtkjmeknaedapjaaDoor
open Go.RowKit

theorem Mods.trans {w w1 w2 : World} {r : Nat} {a : Option Addr} {c : Nat} {b : List Nat} {p q : Nat} {e x : Int} (h : Mods w r a c b p e w1) (k : Mods w1 r a c b q x w2) : Mods w r a c b q x w2 := ⟨k.1, grown_trans' h.2 k.2⟩

set_option maxHeartbeats 1000000 in
theorem uBytes_any (w : World) (r : Nat) (ad : Option Addr) (c : Nat) (b : List Nat) (p : Nat) (e : Int) (most : Int) (h : IsMod w r ad c b p e) (hmo : -9223372036854775808 ≤ most) (hmo' : most ≤ 9223372036854775807) :
    Calls Tryd.prog 45 #[.pointer (some ⟨r, 0, none⟩), .int .i64 most] w fun e' w' => ∃ v, e' = .returned v ∧ OwnB w' w.heap.size v (rdBytes b p e most).1 ∧ Mods w r ad c b (rdBytes b p e most).2.1 (rdBytes b p e most).2.2 w' := by
  have HR : Hid (IsMod w r ad c b p e) := h
  have h1 := h.c1
  have hp := h.2.2.1
  have hl := h.2.2.2.1
  clear h
  go_enter Tryd.func45, Tryd.ntmps45
  go_wp2_with fail
  refine (uUint_any w r ad c b p e HR.out).mono ?_
  rintro e1 w1 ⟨rfl, hr1, hg1⟩
  have k0 := hr1.c0
  have k1 := hr1.c1
  have k2 := hr1.c2
  have f1 := hr1.frozen 1
  have f2 := hr1.frozen 2
  have HG1 : Hid (w.grownBy w1 (some r)) := hg1
  have HR1 : Hid (IsMod w1 r ad c b (rdUpto b p e 18446744073709551615).2.1 (rdUpto b p e 18446744073709551615).2.2) := hr1
  clear hr1 hg1 h1
  by_cases he : e = 0
  · subst he
    have HU : Hid (rdUpto b p 0 18446744073709551615 = ((scan (b.drop p)).1, p + (scan (b.drop p)).2.1, (((scan (b.drop p)).2.2 : Nat) : Int))) := rdUpto_scan b HR.out.2.1.1 p
    have HM : Hid (rdBytes b p 0 most = if (scan (b.drop p)).2.2 ≠ 0 then ([], p, (((scan (b.drop p)).2.2 : Nat) : Int)) else if most < 0 ∨ most < (((scan (b.drop p)).1 : Nat) : Int) then ([], p, 12)
        else if b.length - p - (scan (b.drop p)).2.1 < (scan (b.drop p)).1 then ([], p, 10) else rdRaw b (p + (scan (b.drop p)).2.1) 0 (((scan (b.drop p)).1 : Nat) : Int)) := by
      unfold rdBytes; rw [Hid, if_neg (by simp)]
    have HZ : Hid ((scan (b.drop p)).2.2 ≠ 0 → (scan (b.drop p)).1 = 0 ∧ (scan (b.drop p)).2.1 = 0) := scan_zero (b.drop p)
    have hsl := scan_lt (b.drop p) (fun z hz => HR.out.2.1.1 z (List.mem_of_mem_drop hz))
    rw [List.length_drop] at hsl
    rw [HU.out] at k1 k2
    rw [HU.out] at HR1
    rw [HU.out]
    clear HU
    generalize scan (b.drop p) = s at *
    obtain ⟨n, k, x⟩ := s
    simp only at *
    obtain ⟨hs1, hs2⟩ := hsl
    by_cases t1 : x = 0
    · subst t1
      have HBK : Hid (∀ y : Int, Mods w r ad c b p y ((w1.setCell ⟨r, 2, none⟩ (.int .i64 y)).setCell ⟨r, 1, none⟩ (.int .i64 (p : Int)))) := fun y => ⟨(HR1.out.setErr y).setAt p hp, grown_trans' HG1.out (grown_trans' (grown_setCell w1 ⟨r, 2, none⟩ _) (grown_setCell _ ⟨r, 1, none⟩ _))⟩
      by_cases t2 : most < 0
      · have HE : Hid (rdBytes b p 0 most = ([], p, 12)) := by rw [Hid, HM.out, if_neg (by simp), if_pos (.inl t2)]
        have HF := HBK.out 12
        have HFF : Hid (Mods w r ad c b p 12 ((w1.setCell ⟨r, 2, none⟩ (.int .i64 12)).setCell ⟨r, 1, none⟩ (.int .i64 (p : Int)))) := HF
        clear HF
        go_wp2
        go_ret
        exact ⟨_, rfl, by rw [HE.out]; exact OwnB.nil _ _, by rw [HE.out]; exact HFF.out⟩
      · obtain ⟨M, rfl⟩ := Int.eq_ofNat_of_zero_le (show 0 ≤ most by omega)
        by_cases t3 : M < n
        · have t3' : (M : Int) < (n : Int) := by omega
          have HE : Hid (rdBytes b p 0 (M : Int) = ([], p, 12)) := by rw [Hid, HM.out, if_neg (by simp), if_pos (.inr t3')]
          have HFF : Hid (Mods w r ad c b p 12 ((w1.setCell ⟨r, 2, none⟩ (.int .i64 12)).setCell ⟨r, 1, none⟩ (.int .i64 (p : Int)))) := HBK.out 12
          clear t3
          go_wp2
          go_ret
          exact ⟨_, rfl, by rw [HE.out]; exact OwnB.nil _ _, by rw [HE.out]; exact HFF.out⟩
        · have t3' : ¬ (M : Int) < (n : Int) := by omega
          have hsub : (b.length : Int) - ((p + k : Nat) : Int) = ((b.length - p - k : Nat) : Int) := by omega
          by_cases t4 : b.length - p - k < n
          · have t4' : (b.length : Int) - ((p : Int) + (k : Int)) < (n : Int) := by omega
            have HE : Hid (rdBytes b p 0 (M : Int) = ([], p, 10)) := by rw [Hid, HM.out, if_neg (by simp), if_neg (by omega), if_pos t4]
            have HFF : Hid (∀ nq, Mods w r ad c b p 10 (((w1.setCell ⟨r, 2, none⟩ (.int .i64 10)).setCell ⟨r, 1, none⟩ (.int .i64 (p : Int))).drewN nq)) := fun nq => ⟨(HBK.out 10).1, grown_trans' (HBK.out 10).2 (grown_drewN _ _ _)⟩
            clear t3 t4 hsub
            go_wp2
            go_quiet (fail)
            have HF3 := HFF.out nq
            go_wp2
            go_ret
            exact ⟨_, rfl, by rw [HE.out]; exact OwnB.nil _ _, by rw [HE.out]; exact HF3⟩
          · have t4' : ¬ (b.length : Int) - ((p : Int) + (k : Int)) < (n : Int) := by omega
            have HE : Hid (rdBytes b p 0 (M : Int) = rdRaw b (p + k) 0 (n : Int)) := by rw [Hid, HM.out, if_neg (by simp), if_neg (by omega), if_neg t4]
            have hn47 : n ≤ 140737488355328 := by omega
            clear t3 t4 hsub
            go_wp2
            go_quiet (fail)
            have HR2 : Hid (IsMod (w1.drewN nq) r ad c b (p + k) 0) := HR1.out
            have HG2 : Hid (w.grownBy (w1.drewN nq) (some r)) := grown_trans' HG1.out (grown_drewN _ _ _)
            generalize w1.drewN nq = w2 at *
            have m2 := HR2.out.c2
            clear k0 k1 k2 f1 f2 HBK HR1
            go_wp2_with fail
            refine (uRaw_any w2 r ad c b (p + k) 0 (n : Int) HR2.out).mono ?_
            rintro e3 w3 ⟨v, rfl, hown, hm⟩
            have HO : Hid (OwnB w3 w.heap.size v (rdRaw b (p + k) 0 (n : Int)).1) := hown.mono HG2.out.size
            have HM3 : Hid (Mods w r ad c b (rdRaw b (p + k) 0 (n : Int)).2.1 (rdRaw b (p + k) 0 (n : Int)).2.2 w3) := ⟨hm.1, grown_trans' HG2.out hm.2⟩
            clear hown hm
            go_wp2
            go_ret
            exact ⟨v, rfl, by rw [HE.out]; exact HO.out, by rw [HE.out]; exact HM3.out⟩
    · have hT3 : (((x : Nat) : Int) != 0) = true := by rw [bne_iff_ne]; omega
      have HE : Hid (rdBytes b p 0 most = ([], p, ((x : Nat) : Int))) := by rw [Hid, HM.out, if_pos t1]
      have HW' : Hid (Mods w r ad c b p ((x : Nat) : Int) w1) := ⟨by have := HR1.out; rw [(HZ.out t1).2] at this; exact this, HG1.out⟩
      clear t1
      go_wp2
      go_ret
      exact ⟨_, rfl, by rw [HE.out]; exact OwnB.nil _ _, by rw [HE.out]; exact HW'.out⟩
  · have he' : (e != 0) = true := by rw [bne_iff_ne]; exact he
    have HE : Hid (rdUpto b p e 18446744073709551615 = (0, p, e)) := by unfold rdUpto; rw [Hid, if_pos he]
    have HE2 : Hid (rdBytes b p e most = ([], p, e)) := by unfold rdBytes; rw [Hid, if_pos he]
    rw [HE.out] at k1 k2
    rw [HE.out] at HR1
    rw [HE.out]
    clear he HE
    go_wp2
    go_ret
    exact ⟨_, rfl, by rw [HE2.out]; exact OwnB.nil _ _, by rw [HE2.out]; exact ⟨HR1.out, HG1.out⟩⟩

theorem uEnd_any (w : World) (r : Nat) (ad : Option Addr) (c : Nat) (b : List Nat) (p : Nat) (e : Int) (h : IsMod w r ad c b p e) :
    Calls Tryd.prog 47 #[.pointer (some ⟨r, 0, none⟩)] w fun e' w' => e' = .returned (.int .i64 (rdEnd b p e)) ∧ ∃ q, w' = w.drewN q := by
  have HR : Hid (IsMod w r ad c b p e) := h
  have h0 := h.c0
  have h1 := h.c1
  have h2 := h.c2
  have hp := h.2.2.1
  have hl := h.2.2.2.1
  clear h
  by_cases he : e = 0
  · subst he
    by_cases hpl : p < b.length
    · have hpl' : (p : Int) < (b.length : Int) := by omega
      have HE : Hid (rdEnd b p 0 = 11) := by unfold rdEnd; rw [Hid, if_pos ⟨rfl, hpl⟩]
      clear hpl
      go_enter Tryd.func47, Tryd.ntmps47
      go_wp2
      go_quiet (fail)
      go_wp2
      go_ret
      exact ⟨by rw [HE.out]; rfl, _, rfl⟩
    · have hpl' : ¬ (p : Int) < (b.length : Int) := by omega
      have HE : Hid (rdEnd b p 0 = 0) := by unfold rdEnd; rw [Hid, if_neg (by omega)]
      clear hpl
      go_enter Tryd.func47, Tryd.ntmps47
      go_wp2
      go_quiet (fail)
      go_wp2
      go_ret
      exact ⟨by rw [HE.out]; rfl, _, rfl⟩
  · have he' : (e == 0) = false := by rw [beq_eq_false_iff_ne]; exact he
    have HE : Hid (rdEnd b p e = e) := by unfold rdEnd; rw [Hid, if_neg (by omega)]
    clear he
    go_enter Tryd.func47, Tryd.ntmps47
    go_wp2
    go_quiet (fail)
    go_wp2
    go_ret
    exact ⟨by rw [HE.out]; rfl, _, rfl⟩

end Go.Proofs.YtkjmeknaedapjaaDoor
/-
  THE WALK OF THE DOCUMENT'S Decode.
-/
namespace Go.Proofs.YtkjmeknaedapjaaDoor
open Go.RowKit Go.Sort

theorem rdBytes_err (b : List Nat) (p : Nat) {e : Int} (most : Int) (h : e ≠ 0) : rdBytes b p e most = ([], p, e) := by unfold rdBytes; rw [if_pos h]
theorem getP_err (b : List Nat) (p : Nat) {e : Int} (h : e ≠ 0) : (getP b p e).2.2 = (p, e) := by
  have hH : getH b p e = (⟨0, 0, 0, 0⟩, 0, p, e) := by simp only [getH, rdUpto_err b p _ h]; rfl
  have hl : getL b p e 0 = ([], p, e) := rfl
  simp only [getP, hH, hl]
  split <;> rfl
theorem decL_stuck (b : List Nat) (p : Nat) (e : Int) (k : Nat) (h : (decL b p e k).2.2 ≠ 0) : ∀ m, (decL b p e (k + m)).2 = (decL b p e k).2
  | 0 => rfl
  | m + 1 => by
    have ih := decL_stuck b p e k h m
    have h' : (decL b p e (k + m)).2.2 ≠ 0 := by rw [ih]; exact h
    show (getP b (rdBytes b (decL b p e (k + m)).2.1 (decL b p e (k + m)).2.2 31).2.1 (rdBytes b (decL b p e (k + m)).2.1 (decL b p e (k + m)).2.2 31).2.2).2.2 = _
    rw [rdBytes_err b _ 31 h']
    simp only
    rw [getP_err b _ h', ih]
theorem decL_stop (b : List Nat) (p : Nat) (e : Int) (k n : Nat) (hk : k ≤ n) (h : (decL b p e k).2.2 ≠ 0) : (decL b p e n).2 = (decL b p e k).2 := by
  obtain ⟨m, rfl⟩ := Nat.exists_eq_add_of_le hk
  exact decL_stuck b p e k h m

/-- the document's Reader of a library's bytes, and what was read of it -/
structure DM (w W : World) (ad : Option Addr) (c : Nat) (b : List Nat) (p : Nat) (e : Int) (v : Value) (Ps : List Pr) : Prop where
  rd : IsMod W w.heap.size ad c b p e
  bel : Below w.heap.size w W
  own : OwnP W (w.heap.size + 1) v Ps
  ok : ∀ x ∈ Ps, PrC W (w.heap.size + 1) x
  ap : ∀ x ∈ Ps, ∀ g, cb x = some g → v.ownBlock ≠ some g
  arg : ∀ x, b ≠ [] → ad = some x → x.block < w.heap.size
theorem DM.step {w W W' : World} {ad : Option Addr} {c : Nat} {b : List Nat} {p p2 : Nat} {e e2 : Int} {v : Value} {Ps : List Pr} (h : DM w W ad c b p e v Ps) (hr : Mods W w.heap.size ad c b p2 e2 W') : DM w W' ad c b p2 e2 v Ps := by
  have hne : ∀ g, w.heap.size + 1 ≤ g → some g ≠ some w.heap.size := fun g hg e => by cases e; omega
  refine ⟨hr.1, ?_, h.own.same fun g hg => hr.2.block g (h.own.lt g hg).2 (hne g (h.own.lt g hg).1), fun x hx => (h.ok x hx).same fun g hg => hr.2.block g ((h.ok x hx).lt g hg).2 (hne g ((h.ok x hx).lt g hg).1), h.ap, h.arg⟩
  exact ⟨hr.2.os.trans h.bel.os, hr.2.tape.trans h.bel.tape, hr.2.output.trans h.bel.output, Nat.le_trans h.bel.size hr.2.size, fun k hk => by
    rw [hr.2.block k (Nat.lt_of_lt_of_le hk h.bel.size) (fun e => by cases e; omega)]; exact h.bel.block k hk⟩
theorem DM.kept {w W W' : World} {ad : Option Addr} {c : Nat} {b : List Nat} {p : Nat} {e : Int} {v : Value} {Ps : List Pr} (h : DM w W ad c b p e v Ps) (hb : Below W.heap.size W W') : DM w W' ad c b p e v Ps :=
  ⟨h.rd.kept hb, h.bel.trans (hb.mono h.bel.size), h.own.kept hb, fun x hx => (h.ok x hx).same fun g hg => hb.block g ((h.ok x hx).lt g hg).2, h.ap, h.arg⟩
theorem DM.under {w W : World} {ad : Option Addr} {c : Nat} {b : List Nat} {p : Nat} {e : Int} {v : Value} {Ps : List Pr} (h : DM w W ad c b p e v Ps) : (∀ g, v.ownBlock = some g → g < W.heap.size) ∧ w.heap.size + 1 ≤ W.heap.size :=
  ⟨fun g hg => (h.own.lt g hg).2, by have := h.rd.lt; omega⟩
theorem DM.put {w W W' : World} {ad : Option Addr} {c : Nat} {b : List Nat} {p S : Nat} {e : Int} {v v' : Value} {Ps : List Pr} {x : Pr} (h : DM w W ad c b p e v Ps) (hx : PrC W S x) (h2 : ∀ g, v.ownBlock = some g → g < S) (h3 : w.heap.size + 1 ≤ S)
    (ho : OwnP W' (w.heap.size + 1) v' (Ps ++ [x])) (hg : W.grownBy W' v.ownBlock) (hv : v'.ownBlock = v.ownBlock ∨ v'.ownBlock = some W.heap.size) : DM w W' ad c b p e v' (Ps ++ [x]) := by
  have hvb : ∀ k, v.ownBlock = some k → w.heap.size + 1 ≤ k := fun k hk => (h.own.lt k hk).1
  have hs : ∀ g, g < W.heap.size → v.ownBlock ≠ some g → W'.heap[g]? = W.heap[g]? := fun g hl hn => hg.block g hl (fun e => hn e.symm)
  have hxc : PrC W' (w.heap.size + 1) x := by
    have := hx.same (W' := W') fun g hg' => hs g (hx.lt g hg').2 fun e => by have := h2 g e; have := (hx.lt g hg').1; omega
    exact ⟨this.len, this.own.mono h3, this.nin, this.kin, this.str, this.big⟩
  refine ⟨?_, ?_, ho, ?_, ?_, h.arg⟩
  · refine h.rd.grown hg (fun e => ?_) (fun k hk y hb hy => ?_)
    · have := hvb _ e; omega
    · have := hvb k hk
      have := h.arg y hb hy
      omega
  · exact ⟨hg.os.trans h.bel.os, hg.tape.trans h.bel.tape, hg.output.trans h.bel.output, Nat.le_trans h.bel.size hg.size, fun k hk => by
      rw [hs k (Nat.lt_of_lt_of_le hk h.bel.size) (fun e => by have := hvb k e; omega)]; exact h.bel.block k hk⟩
  · intro y hy
    rcases List.mem_append.1 hy with hy | hy
    · exact (h.ok y hy).same fun g hg' => hs g ((h.ok y hy).lt g hg').2 (h.ap y hy g hg')
    · simp at hy; subst hy; exact hxc
  · intro y hy g hg' e
    have hgl : g < W.heap.size := by
      rcases List.mem_append.1 hy with hy | hy
      · exact ((h.ok y hy).lt g hg').2
      · simp at hy; subst hy; exact (hx.lt g hg').2
    rcases hv with hv | hv
    · rw [hv] at e
      rcases List.mem_append.1 hy with hy | hy
      · exact h.ap y hy g hg' e
      · simp at hy; subst hy
        have := h2 g e
        have := (hx.lt g hg').1
        omega
    · rw [hv] at e; cases e; omega
theorem DM.lib {w W : World} {ad : Option Addr} {c : Nat} {b : List Nat} {p : Nat} {e : Int} {ao : Option Addr} {n cap : Nat} {Ps : List Pr} (h : DM w W ad c b p e (.slice ao n cap) Ps) : LibAt W ao Ps ∧ n = Ps.length ∧ n ≤ cap := by
  obtain ⟨ao', cap', e', hk, _, hc⟩ := h.own.slice
  simp only [Value.slice.injEq] at e'
  obtain ⟨e1, e2, e3⟩ := e'
  exact ⟨⟨by rw [e1]; exact hk, fun x hx => (h.ok x hx).ok⟩, e2, by rw [e2, e3]; exact hc⟩
/-- what the document's Decode answers -/
def RPostM (w : World) (b : List Nat) (e' : Ending) (W : World) : Prop :=
  Below w.heap.size w W ∧
  ((decE b ≠ 0 ∧ e' = .returned (.tuple #[.slice none 0 0, .int .i64 0, .int .i64 (decE b)])) ∨
   (decE b = 0 ∧ ∃ Ps ao cap, Ps.map core = (decA b).1 ∧ (OwnP W (w.heap.size + 1) (.slice ao Ps.length cap) Ps ∧ ∀ x ∈ Ps, PrC W (w.heap.size + 1) x) ∧
     (((checkN Ps).2 ≠ 0 ∧ e' = .returned (.tuple #[.slice none 0 0, .int .i64 ((checkN Ps).1 : Int), .int .i64 (checkN Ps).2])) ∨
      ((checkN Ps).2 = 0 ∧ e' = .returned (.tuple #[.slice ao Ps.length cap, .int .i64 0, .int .i64 0])))))

set_option maxRecDepth 100000 in
set_option maxHeartbeats 2000000 in
theorem refDecode_any (w : World) (ao : Option Addr) (n cap : Nat) (b : List Nat) (h : BytesAt w ao b) (hn : n = b.length) (hm : n ≤ 140737488351232) (hlc : n ≤ cap) (hcm : cap ≤ maxLen) (hnil : ao = none → cap = 0) :
    Calls Tryd.prog 14 #[.slice ao n cap] w fun e w' => RPostM w b e w' := by
  have H : Hid (BytesAt w ao b) := h
  have HZ : Hid (∀ z ∈ b, z < 256) := h.1
  have HN : Hid (n = b.length) := hn
  have HM0 : Hid (DM w (w.alloc (.cells #[.slice ao n cap, .int .i64 0, .int .i64 0] 83)) ao cap b 0 0 (.slice none 0 0) []) := by
    refine ⟨⟨?_, h.kept ((Below.refl _ _).alloc (Nat.le_refl _) _), Nat.zero_le _, by omega, by omega, hcm, hnil, fun x hb hx => ?_⟩, (Below.refl _ _).alloc (Nat.le_refl _) _, OwnP.nil _ _, (fun x hx => by cases hx), (fun x hx => by cases hx), fun x hb hx => h.lt x hb hx⟩
    · rw [hn]; exact heap_alloc_new _ _ rfl
    · have := h.lt x hb hx; omega
  clear h hn hlc hcm hnil
  go_enter Tryd.func14, Tryd.ntmps14
  go_wp2_with fail
  generalize w.alloc (.cells #[.slice ao n cap, .int .i64 0, .int .i64 0] 83) = w1 at *
  refine (uRaw_any w1 _ _ _ b 0 0 4 HM0.out.rd).mono ?_
  rintro e w2 ⟨v2, rfl, ho2, hr2⟩
  have HD2 : Hid (DM w w2 ao cap b (rdRaw b 0 0 4).2.1 (rdRaw b 0 0 4).2.2 (.slice none 0 0) []) := HM0.out.step hr2
  have hcv := string_own ho2
  obtain ⟨a2, c2, rfl, hb2, _, _⟩ := ho2.slice
  have HX : Hid (∀ z ∈ (rdRaw b 0 0 4).1, z < 256) := ho2.1
  have HE : Hid (hdE b = if (rdRaw b 0 0 4).1 = [80, 82, 76, 49] then (rdRaw b 0 0 4).2.2 else failE (rdRaw b 0 0 4).2.2 11) := rfl
  clear ho2 hr2 hb2 HM0
  generalize hX : (rdRaw b 0 0 4).1 = X at *
  have HXX : Hid ((rdRaw b 0 0 4).1 = X) := hX
  clear hX
  generalize (rdRaw b 0 0 4).2.2 = e1 at *
  have HQ0 : ((nmS X).toList == ([80, 82, 76, 49] : List UInt8)) = true ↔ X = [80, 82, 76, 49] := by
    rw [beq_iff_eq, nmS_toList]
    constructor
    · intro e
      refine nmS_inj HX.out (by decide) ?_
      unfold nmS; rw [e]; rfl
    · intro e; rw [e]; rfl
  have HQ : Hid (((nmS X).toList == ([80, 82, 76, 49] : List UInt8)) = true ↔ X = [80, 82, 76, 49]) := HQ0
  clear HQ0
  have d2 := HD2.out.rd.c2
  have f2 := HD2.out.rd.frozen 2
  generalize hq : ((nmS X).toList == ([80, 82, 76, 49] : List UInt8)) = q at *
  go_upto_region 3 with fail
  go_cut [28] (fun x wx => ∃ t : Bool, x = .bool t ∧ Hid (t = decide (e1 = 0 ∧ q = false)) ∧ wx = w2)
  case first =>
    by_cases h0 : e1 = 0
    · subst h0
      cases q with
      | true =>
        have HDc : Hid (false = decide ((0 : Int) = 0 ∧ true = false)) := (decide_eq_false (by simp)).symm
        go_wp2_with fail
        go_meet
        case rel => exact ⟨false, rfl, HDc, rfl⟩
      | false =>
        have HDc : Hid (true = decide ((0 : Int) = 0 ∧ false = false)) := (decide_eq_true (by simp)).symm
        go_wp2_with fail
        go_meet
        case rel => exact ⟨true, rfl, HDc, rfl⟩
    · have h0' : (e1 == 0) = false := by simpa using h0
      have HDc : Hid (false = decide (e1 = 0 ∧ q = false)) := (decide_eq_false (fun h => h0 h.1)).symm
      clear h0
      go_wp2_with fail
      go_meet
      case rel => exact ⟨false, rfl, HDc, rfl⟩
  obtain ⟨t, rfl, HDc, rfl⟩ := hcut
  go_upto_if 28 with fail
  go_cut [] (fun wx => Hid (DM w wx ao cap b (rdRaw b 0 0 4).2.1 (hdE b) (.slice none 0 0) []))
  case first =>
    cases t with
    | true =>
      have HS : Hid (DM w (wc.setCell ⟨w.heap.size, 2, none⟩ (.int .i64 11)) ao cap b (rdRaw b 0 0 4).2.1 (hdE b) (.slice none 0 0) []) := by
        have hd := of_decide_eq_true HDc.out.symm
        have h11 : hdE b = 11 := by
          rw [HE.out, if_neg (fun h => by have := HQ.out.2 h; rw [hd.2] at this; cases this)]
          unfold failE; rw [if_pos hd.1]
        rw [h11]
        exact HD2.out.step ⟨HD2.out.rd.setErr 11, grown_setCell wc ⟨w.heap.size, 2, none⟩ _⟩
      go_wp2_with fail
      go_meet
      case rel => exact HS
    | false =>
      have HS : Hid (DM w wc ao cap b (rdRaw b 0 0 4).2.1 (hdE b) (.slice none 0 0) []) := by
        have hd := of_decide_eq_false HDc.out.symm
        have h11 : hdE b = e1 := by
          rw [HE.out]
          by_cases hX : X = [80, 82, 76, 49]
          · rw [if_pos hX]
          · rw [if_neg hX]
            unfold failE
            by_cases h0 : e1 = 0
            · have hq0 : q = false := by
                cases hqq : q with
                | false => rfl
                | true => exact absurd (HQ.out.1 hqq) hX
              exact absurd ⟨h0, hq0⟩ hd
            · rw [if_neg h0]
        rw [h11]
        exact HD2.out
      go_wp2_with fail
      go_meet
      case rel => exact HS
  have HD3 := hcut
  clear hcut HD2 HX HE HXX HQ hcv d2 f2 HDc hq
  generalize wc = w3 at *
  obtain ⟨⟨m, p3, e3⟩, hU⟩ : ∃ x, x = decU b := ⟨_, rfl⟩
  have HU : Hid (rdUpto b (rdRaw b 0 0 4).2.1 (hdE b) 64 = (m, p3, e3)) := by rw [hU]; rfl
  have HA : Hid (decA b = decL b p3 e3 m) := by show decA b = _; unfold decA; rw [← hU]
  have hm64 : m ≤ 64 := by have := rdUpto_most b (rdRaw b 0 0 4).2.1 (hdE b) 64; rw [HU.out] at this; exact this
  clear hU
  go_wp2_with fail
  refine (uUpto_any w3 _ _ _ b _ _ 64 HD3.out.rd).mono ?_
  rintro e w4 ⟨rfl, hr4⟩
  rw [HU.out] at hr4 ⊢
  have HD4 : Hid (DM w w4 ao cap b p3 e3 (.slice none 0 0) []) := HD3.out.step hr4
  clear hr4 HD3 HU
  go_wp2_with fail
  go_loopw [8, 9] (fun v x wr => ∃ k : Nat, k ≤ m ∧ x = .int .i64 (k : Int) ∧ ∃ av cv Ps, v = .slice av k cv ∧ Hid (Ps.map core = (decL b p3 e3 k).1) ∧ Hid (DM w wr ao cap b (decL b p3 e3 k).2.1 (decL b p3 e3 k).2.2 (.slice av k cv) Ps)) (fun _ x _ => m - (intOf x).toNat)
  case atStart => exact ⟨0, Nat.zero_le _, rfl, none, 0, [], rfl, rfl, HD4⟩
  case round =>
    clear HD4
    obtain ⟨k, hk, rfl, av, cv, Ps, rfl, HC, HD⟩ := hrel
    have HLn : Hid (Ps.length = k) := HD.out.lib.2.1.symm
    have d2 := HD.out.rd.c2
    have HStop : Hid ((decL b p3 e3 k).2.2 ≠ 0 → (decL b p3 e3 m).2 = (decL b p3 e3 k).2) := fun h => decL_stop b p3 e3 k m hk h
    by_cases hlt : k < m
    · by_cases he : (decL b p3 e3 k).2.2 = 0
      · have HL1 : Hid (decL b p3 e3 (k + 1) = ((decL b p3 e3 k).1 ++ [(nmS (rdBytes b (decL b p3 e3 k).2.1 (decL b p3 e3 k).2.2 31).1, (getP b (rdBytes b (decL b p3 e3 k).2.1 (decL b p3 e3 k).2.2 31).2.1 (rdBytes b (decL b p3 e3 k).2.1 (decL b p3 e3 k).2.2 31).2.2).1, (getP b (rdBytes b (decL b p3 e3 k).2.1 (decL b p3 e3 k).2.2 31).2.1 (rdBytes b (decL b p3 e3 k).2.1 (decL b p3 e3 k).2.2 31).2.2).2.1)],
        (getP b (rdBytes b (decL b p3 e3 k).2.1 (decL b p3 e3 k).2.2 31).2.1 (rdBytes b (decL b p3 e3 k).2.1 (decL b p3 e3 k).2.2 31).2.2).2.2)) := rfl
        clear HStop
        generalize (decL b p3 e3 k).1 = Q at *
        generalize (decL b p3 e3 k).2.1 = pk at *
        generalize (decL b p3 e3 k).2.2 = ek at *
        subst he
        go_wp2_with fail
        refine (uBytes_any wr _ _ _ b pk 0 31 HD.out.rd (by decide) (by decide)).mono ?_
        rintro e w5 ⟨v5, rfl, ho5, hr5⟩
        have HD5 : Hid (DM w w5 ao cap b (rdBytes b pk 0 31).2.1 (rdBytes b pk 0 31).2.2 (.slice av k cv) Ps) := HD.out.step hr5
        have HB5 : Hid ((nmS (rdBytes b pk 0 31).1).size ≤ 31) := by rw [nmS_size]; exact (bytes_in HZ.out pk 0).1
        have HR5 : Hid (w.heap.size < wr.heap.size) := HD.out.rd.lt
        obtain ⟨a5, c5, rfl, _, _, _⟩ := ho5.slice
        have HO5 : Hid (OwnB w5 wr.heap.size (.slice a5 (rdBytes b pk 0 31).1.length c5) (rdBytes b pk 0 31).1) := ho5
        clear ho5 hr5 HD d2
        obtain ⟨nm, hnm⟩ : ∃ nm, nm = nmS (rdBytes b pk 0 31).1 := ⟨_, rfl⟩
        have HNm : Hid (nmS (rdBytes b pk 0 31).1 = nm) := hnm.symm
        rw [← hnm] at HB5 HL1
        clear hnm
        generalize (rdBytes b pk 0 31).1 = X5 at *
        generalize X5.length = l5 at *
        generalize (rdBytes b pk 0 31).2.1 = p5 at *
        generalize (rdBytes b pk 0 31).2.2 = e5 at *
        go_wp2_with fail
        refine (refRead_any w5 _ _ _ b p5 e5 HD5.out.rd).mono ?_
        rintro e w6 ⟨a6, c6, rfl, ho6, hr6⟩
        have HD6 : Hid (DM w w6 ao cap b (getP b p5 e5).2.2.1 (getP b p5 e5).2.2.2 (.slice av k cv) Ps) := HD5.out.step hr6
        have HO6 : Hid (OwnB w6 wr.heap.size (.slice a5 l5 c5) X5) := HO5.out.grown hr6.2 (.inr fun e => by have := (HO5.out.2.lt _ e).1; have := HR5.out; omega)
        have HIn := getP_in HZ.out (p := p5) e5 HD5.out.rd.2.2.1
        have HUn : Hid ((∀ g, (Value.slice av k cv).ownBlock = some g → g < w5.heap.size) ∧ w.heap.size + 1 ≤ w5.heap.size) := HD5.out.under
        have HX6 : Hid (PrC w6 w5.heap.size ⟨nm, (getP b p5 e5).1, a6, (getP b p5 e5).2.1.length, c6, (getP b p5 e5).2.1⟩) := ⟨rfl, ho6, HIn.1, HIn.2.1, HB5.out, HIn.2.2⟩
        clear ho6 hr6 HD5 HIn HB5 HO5
        generalize (getP b p5 e5).2.1 = L6 at *
        generalize (getP b p5 e5).1 = q6 at *
        obtain ⟨p6, hp6⟩ : ∃ p6, p6 = (getP b p5 e5).2.2.1 := ⟨_, rfl⟩
        obtain ⟨e6, he6⟩ : ∃ e6, e6 = (getP b p5 e5).2.2.2 := ⟨_, rfl⟩
        have HL2 : Hid (decL b p3 e3 (k + 1) = (Q ++ [(nm, q6, L6)], p6, e6)) := by show decL b p3 e3 (k + 1) = _; rw [HL1.out, hp6, he6]
        rw [← hp6, ← he6] at HD6
        clear HL1 hp6 he6
        generalize L6.length = l6 at *
        obtain ⟨y1, y2, y3, y4⟩ := q6
        have HBl : Below w6.heap.size w6 (w6.alloc (.cells #[.int .i64 y1, .int .i64 y2, .int .i64 y3, .int .i64 y4, .slice a6 l6 c6] 41)) := (Below.refl _ _).alloc (Nat.le_refl _) _
        have HD7 : Hid (DM w (w6.alloc (.cells #[.int .i64 y1, .int .i64 y2, .int .i64 y3, .int .i64 y4, .slice a6 l6 c6] 41)) ao cap b p6 e6 (.slice av k cv) Ps) := HD6.out.kept HBl
        have HX7 : Hid (PrC (w6.alloc (.cells #[.int .i64 y1, .int .i64 y2, .int .i64 y3, .int .i64 y4, .slice a6 l6 c6] 41)) w5.heap.size ⟨nm, ⟨y1, y2, y3, y4⟩, a6, l6, c6, L6⟩) := HX6.out.same fun g hg => HBl.block g (HX6.out.lt g hg).2
        have HP7 : Hid (PBox (w6.alloc (.cells #[.int .i64 y1, .int .i64 y2, .int .i64 y3, .int .i64 y4, .slice a6 l6 c6] 41)) w6.heap.size ⟨y1, y2, y3, y4⟩ a6 l6 c6) := PBox.new w6 ⟨y1, y2, y3, y4⟩ a6 l6 c6
        have hcv : (convert 23 9 (.slice a5 l5 c5)).run Tryd.prog (w6.alloc (.cells #[.int .i64 y1, .int .i64 y2, .int .i64 y3, .int .i64 y4, .slice a6 l6 c6] 41)) = .ok (.string nm) (w6.alloc (.cells #[.int .i64 y1, .int .i64 y2, .int .i64 y3, .int .i64 y4, .slice a6 l6 c6] 41)) := by
          have := string_own (HO6.out.kept HBl)
          rw [HNm.out] at this; exact this
        clear HBl HD6 HX6 HO6 HNm
        go_upto_region 12 with fail
        generalize w6.alloc (.cells #[.int .i64 y1, .int .i64 y2, .int .i64 y3, .int .i64 y4, .slice a6 l6 c6] 41) = w7 at *
        generalize w6.heap.size = B6 at *
        obtain ⟨q0, q1, q2, q3, q4⟩ := HP7.out.cells
        simp only at q0 q1 q2 q3 q4
        go_wp2_with (at_builtin; refine wpList_append_procs rfl _ _ rfl (w.heap.size + 1) (.slice av k cv) Ps rfl (HD7.out.own.alloc _) _ 1 1 [⟨nm, ⟨y1, y2, y3, y4⟩, a6, l6, c6, L6⟩] rfl rfl (proc_src w7 _ ⟨nm, ⟨y1, y2, y3, y4⟩, a6, l6, c6, L6⟩ rfl) (by have := HLn.out; simp; omega) (by have := HD7.out.under.2; simp only [World.size_alloc]; omega) ?_; intro v8 w8 ho8 hg8 hv8)
        have HD8 : Hid (DM w w8 ao cap b p6 e6 v8 (Ps ++ [⟨nm, ⟨y1, y2, y3, y4⟩, a6, l6, c6, L6⟩])) :=
          (HD7.out.kept ((Below.refl _ _).alloc (Nat.le_refl _) _)).put (HX7.out.same fun g hg => heap_alloc_old _ _ (HX7.out.lt g hg).2) HUn.out.1 HUn.out.2 ho8 hg8 hv8
        obtain ⟨a8, c8, rfl, _, _, _⟩ := ho8.slice
        have hl8 : (Ps ++ [(⟨nm, ⟨y1, y2, y3, y4⟩, a6, l6, c6, L6⟩ : Pr)]).length = k + 1 := by rw [List.length_append, HLn.out]; rfl
        rw [hl8] at HD8 ⊢
        have HC8 : Hid ((Ps ++ [(⟨nm, ⟨y1, y2, y3, y4⟩, a6, l6, c6, L6⟩ : Pr)]).map core = (decL b p3 e3 (k + 1)).1) := by
          show _ = _
          rw [HL2.out, List.map_append, HC.out]; rfl
        have HD9 : Hid (DM w w8 ao cap b (decL b p3 e3 (k + 1)).2.1 (decL b p3 e3 (k + 1)).2.2 (.slice a8 (k + 1) c8) (Ps ++ [⟨nm, ⟨y1, y2, y3, y4⟩, a6, l6, c6, L6⟩])) := by rw [HL2.out]; exact HD8.out
        clear ho8 hg8 hv8 hl8 HD8 HD7 HX7 HUn HL2 HLn HC
        go_wp2
        go_roundw
        case rel => exact ⟨k + 1, by omega, by go_num, a8, c8, _, rfl, HC8, HD9⟩
        case measure => simp [intOf]; omega
      · have HEe : Hid (decE b = rdEnd b (decL b p3 e3 k).2.1 (decL b p3 e3 k).2.2) := by show decE b = _; unfold decE; rw [HA.out, HStop.out he]
        have HC2 : Hid (decE b = 0 → Ps.map core = (decA b).1) := fun h => by
          rw [HEe.out] at h
          unfold rdEnd at h
          rw [if_neg (fun hh => he hh.1)] at h
          exact absurd h he
        have he' : ((decL b p3 e3 k).2.2 == 0) = false := by simpa using he
        clear HA HC HStop he
        generalize (decL b p3 e3 k).2.1 = pk at *
        generalize (decL b p3 e3 k).2.2 = ek at *
        go_wp2_with fail
        refine (uEnd_any wr _ _ _ b pk ek HD.out.rd).mono ?_
        rintro e w9 ⟨rfl, nq, hq⟩
        have HD9 : Hid (DM w w9 ao cap b pk ek (.slice av k cv) Ps) := by rw [hq]; exact HD.out.kept ⟨rfl, rfl, rfl, Nat.le_refl _, fun _ _ => rfl⟩
        rw [← HEe.out]
        clear hq HD d2
        by_cases hE : decE b = 0
        · have HE0 : Hid (decE b = 0) := hE
          have HC3 : Hid (Ps.map core = (decA b).1) := HC2.out hE
          rw [hE]
          clear hE HEe HC2
          go_wp2_with fail
          obtain ⟨hlib, hln, hlc⟩ := HD9.out.lib
          refine (refCheck_any w9 av k cv Ps hlib hln (by omega)).mono ?_
          rintro e w10 ⟨rfl, hb10⟩
          have HL10 : Hid (OwnP w10 (w.heap.size + 1) (.slice av Ps.length cv) Ps ∧ ∀ x ∈ Ps, PrC w10 (w.heap.size + 1) x) := by
            have hd := HD9.out.kept hb10
            rw [HLn.out]; exact ⟨hd.own, hd.ok⟩
          have HB10 : Hid (Below w.heap.size w w10) := HD9.out.bel.trans (hb10.mono HD9.out.bel.size)
          have HP1 : Hid ((checkN Ps).2 ≠ 0 → RPostM w b (.returned (.tuple #[.slice none 0 0, .int .i64 ((checkN Ps).1 : Int), .int .i64 (checkN Ps).2])) w10) := fun h => ⟨HB10.out, .inr ⟨HE0.out, Ps, av, cv, HC3.out, HL10.out, .inl ⟨h, rfl⟩⟩⟩
          have HP2 : Hid ((checkN Ps).2 = 0 → RPostM w b (.returned (.tuple #[.slice av k cv, .int .i64 0, .int .i64 0])) w10) := fun h => ⟨HB10.out, .inr ⟨HE0.out, Ps, av, cv, HC3.out, HL10.out, .inr ⟨h, by rw [HLn.out]⟩⟩⟩
          clear hb10 hlib hln hlc HD9 HC3 HL10 HB10 HLn
          generalize (checkN Ps).1 = c1 at *
          generalize (checkN Ps).2 = c2 at *
          by_cases hc : c2 = 0
          · have HF := HP2.out hc
            have HFF : Hid (RPostM w b (.returned (.tuple #[.slice av k cv, .int .i64 0, .int .i64 0])) w10) := HF
            subst hc
            clear HP1 HP2 HF
            go_wp2
            refine bodyPost_ret (v := .tuple #[.slice av k cv, .int .i64 0, .int .i64 0]) ?_ rfl HFF.out
            simp [results, Tryd.results14]
          · have HFF : Hid (RPostM w b (.returned (.tuple #[.slice none 0 0, .int .i64 (c1 : Int), .int .i64 c2])) w10) := HP1.out hc
            have hc' : (c2 != 0) = true := by simpa using hc
            clear HP1 HP2
            go_wp2
            refine bodyPost_ret (v := .tuple #[.slice none 0 0, .int .i64 (c1 : Int), .int .i64 c2]) ?_ rfl HFF.out
            simp [results, Tryd.results14]
        · have HFF : Hid (RPostM w b (.returned (.tuple #[.slice none 0 0, .int .i64 0, .int .i64 (decE b)])) w9) := ⟨HD9.out.bel, .inl ⟨hE, rfl⟩⟩
          have hE' : (decE b != 0) = true := by simpa using hE
          clear HEe HC2 HD9
          generalize decE b = ee at *
          go_wp2
          refine bodyPost_ret (v := .tuple #[.slice none 0 0, .int .i64 0, .int .i64 ee]) ?_ rfl HFF.out
          simp [results, Tryd.results14]
    · obtain rfl : k = m := by omega
      have HEe : Hid (decE b = rdEnd b (decL b p3 e3 k).2.1 (decL b p3 e3 k).2.2) := by show decE b = _; unfold decE; rw [HA.out]
      have HC2 : Hid (decE b = 0 → Ps.map core = (decA b).1) := fun _ => by rw [HA.out]; exact HC.out
      clear HA HC HStop
      generalize (decL b p3 e3 k).2.1 = pk at *
      generalize (decL b p3 e3 k).2.2 = ek at *
      go_wp2_with fail
      refine (uEnd_any wr _ _ _ b pk ek HD.out.rd).mono ?_
      rintro e w9 ⟨rfl, nq, hq⟩
      have HD9 : Hid (DM w w9 ao cap b pk ek (.slice av k cv) Ps) := by rw [hq]; exact HD.out.kept ⟨rfl, rfl, rfl, Nat.le_refl _, fun _ _ => rfl⟩
      rw [← HEe.out]
      clear hq HD d2
      by_cases hE : decE b = 0
      · have HE0 : Hid (decE b = 0) := hE
        have HC3 : Hid (Ps.map core = (decA b).1) := HC2.out hE
        rw [hE]
        clear hE HEe HC2
        go_wp2_with fail
        obtain ⟨hlib, hln, hlc⟩ := HD9.out.lib
        refine (refCheck_any w9 av k cv Ps hlib hln (by omega)).mono ?_
        rintro e w10 ⟨rfl, hb10⟩
        have HL10 : Hid (OwnP w10 (w.heap.size + 1) (.slice av Ps.length cv) Ps ∧ ∀ x ∈ Ps, PrC w10 (w.heap.size + 1) x) := by
          have hd := HD9.out.kept hb10
          rw [HLn.out]; exact ⟨hd.own, hd.ok⟩
        have HB10 : Hid (Below w.heap.size w w10) := HD9.out.bel.trans (hb10.mono HD9.out.bel.size)
        have HP1 : Hid ((checkN Ps).2 ≠ 0 → RPostM w b (.returned (.tuple #[.slice none 0 0, .int .i64 ((checkN Ps).1 : Int), .int .i64 (checkN Ps).2])) w10) := fun h => ⟨HB10.out, .inr ⟨HE0.out, Ps, av, cv, HC3.out, HL10.out, .inl ⟨h, rfl⟩⟩⟩
        have HP2 : Hid ((checkN Ps).2 = 0 → RPostM w b (.returned (.tuple #[.slice av k cv, .int .i64 0, .int .i64 0])) w10) := fun h => ⟨HB10.out, .inr ⟨HE0.out, Ps, av, cv, HC3.out, HL10.out, .inr ⟨h, by rw [HLn.out]⟩⟩⟩
        clear hb10 hlib hln hlc HD9 HC3 HL10 HB10 HLn
        generalize (checkN Ps).1 = c1 at *
        generalize (checkN Ps).2 = c2 at *
        by_cases hc : c2 = 0
        · have HF := HP2.out hc
          have HFF : Hid (RPostM w b (.returned (.tuple #[.slice av k cv, .int .i64 0, .int .i64 0])) w10) := HF
          subst hc
          clear HP1 HP2 HF
          go_wp2
          refine bodyPost_ret (v := .tuple #[.slice av k cv, .int .i64 0, .int .i64 0]) ?_ rfl HFF.out
          simp [results, Tryd.results14]
        · have HFF : Hid (RPostM w b (.returned (.tuple #[.slice none 0 0, .int .i64 (c1 : Int), .int .i64 c2])) w10) := HP1.out hc
          have hc' : (c2 != 0) = true := by simpa using hc
          clear HP1 HP2
          go_wp2
          refine bodyPost_ret (v := .tuple #[.slice none 0 0, .int .i64 (c1 : Int), .int .i64 c2]) ?_ rfl HFF.out
          simp [results, Tryd.results14]
      · have HFF : Hid (RPostM w b (.returned (.tuple #[.slice none 0 0, .int .i64 0, .int .i64 (decE b)])) w9) := ⟨HD9.out.bel, .inl ⟨hE, rfl⟩⟩
        have hE' : (decE b != 0) = true := by simpa using hE
        clear HEe HC2 HD9
        generalize decE b = ee at *
        go_wp2
        refine bodyPost_ret (v := .tuple #[.slice none 0 0, .int .i64 0, .int .i64 ee]) ?_ rfl HFF.out
        simp [results, Tryd.results14]
end Go.Proofs.YtkjmeknaedapjaaDoor
/-
  CODE THAT IS WRITTEN OVER AND GROWN, EACH PIECE IN ITS OWN BLOCKS.
-/
namespace Go.Proofs.YtkjmeknaedapjaaDoor
open Go.RowKit Go.Sort

theorem cks_set2 (M : List K) (i : Nat) (k : K) (h : i < M.length) : cks (M.set i k) = ((cks M).set (i * 2) (.int .i64 k.1)).set (i * 2 + 1) (.int .i64 k.2) := by
  induction M generalizing i with
  | nil => simp at h
  | cons m M ih =>
    cases i with
    | zero => simp [cks]
    | succ i =>
      have := ih i (by simp at h; omega)
      rw [List.set_cons_succ, show (i + 1) * 2 = i * 2 + 1 + 1 by omega]
      simp only [cks, List.set_cons_succ]
      rw [this]
theorem kd_set (M : List K) (i j : Nat) (k : K) (h : i < M.length) : kd (M.set i k) j = if i = j then k else kd M j := by
  simp only [kd, cd]
  rw [List.getD_eq_getElem?_getD, List.getD_eq_getElem?_getD, List.getElem?_set]
  by_cases hij : i = j
  · subst hij; rw [if_pos rfl, if_pos h, if_pos rfl]; rfl
  · rw [if_neg hij, if_neg hij]

abbrev own (g n cap : Nat) : Value := .slice (some ⟨g, 0, none⟩) n cap
theorem OwnK.len {w : World} {base g n cap : Nat} {M : List K} (h : OwnK w base (own g n cap) M) : n = M.length ∧ n ≤ cap ∧ cap ≤ maxLen := by
  rcases h.shape with ⟨e, _⟩ | ⟨g', c', e, _, _, h1, h2, _⟩
  · cases e
  · cases e; exact ⟨rfl, h1, h2⟩
theorem OwnK.at {w : World} {base g n cap : Nat} {M : List K} (h : OwnK w base (own g n cap) M) (i : Nat) (hi : i < n) :
    w.cell? ⟨g, i * 2, none⟩ = some (.int .i64 (kd M i).1) ∧ w.cell? ⟨g, i * 2 + 1, none⟩ = some (.int .i64 (kd M i).2) := by
  obtain ⟨hn, _⟩ := h.len
  rcases h.shape with ⟨e, _⟩ | ⟨g', c', e, _, _, _, _, hk⟩
  · cases e
  · cases e
    rcases hk with h0 | ⟨b, off, e, hc⟩
    · rw [h0] at hi; simp at hi
    · cases e
      have := KeysAt.at hc i hi
      simpa using this
theorem OwnK.frozen {w : World} {base g n cap : Nat} {M : List K} (h : OwnK w base (own g n cap) M) (j : Nat) : w.frozen? ⟨g, j, none⟩ = false := by
  obtain ⟨rfl, _⟩ := h.len
  exact World.ownsRow.frozenAt h j
theorem OwnK.set {w : World} {base g n cap : Nat} {M : List K} (h : OwnK w base (own g n cap) M) (i : Nat) (hi : i < n) (x y : Int) :
    OwnK ((w.setCell ⟨g, i * 2, none⟩ (.int .i64 x)).setCell ⟨g, i * 2 + 1, none⟩ (.int .i64 y)) base (own g n cap) (M.set i (x, y)) ∧ w.grownBy ((w.setCell ⟨g, i * 2, none⟩ (.int .i64 x)).setCell ⟨g, i * 2 + 1, none⟩ (.int .i64 y)) (some g) := by
  obtain ⟨rfl, _⟩ := h.len
  obtain ⟨h1, h2⟩ := World.ownsRow.stored h (i * 2) (.int .i64 x)
  obtain ⟨h3, h4⟩ := World.ownsRow.stored h1 (i * 2 + 1) (.int .i64 y)
  refine ⟨?_, ⟨h4.os.trans h2.os, h4.tape.trans h2.tape, h4.output.trans h2.output, Nat.le_trans h2.size h4.size, fun k hk hne => (h4.block k (Nat.lt_of_lt_of_le hk h2.size) hne).trans (h2.block k hk hne)⟩⟩
  unfold OwnK
  rw [List.length_set, cks_set2 M i (x, y) hi]
  exact h3
/-- a row of lists of the call's own -/
def OwnR (w : World) (base : Nat) (v : Value) (xs : List Value) : Prop := w.ownsRow base 39 1 v xs.length xs
theorem OwnR.nil (w : World) (base : Nat) : OwnR w base (.slice none 0 0) [] := World.ownsRow_nil _ _ _ _
theorem OwnR.shape {w : World} {base : Nat} {v : Value} {xs : List Value} (h : OwnR w base v xs) :
    (v = .slice none 0 0 ∧ xs = []) ∨ ∃ g cap, v = .slice (some ⟨g, 0, none⟩) xs.length cap ∧ base ≤ g ∧ g < w.heap.size ∧ xs.length ≤ cap ∧ ∀ j x, xs[j]? = some x → w.cell? ⟨g, j, none⟩ = some x := by
  obtain ⟨hl, h⟩ := h
  rcases h with ⟨rfl, h0⟩ | ⟨g, cap, cur, rfl, hb, hg, hn, hm, hs, ht⟩
  · exact .inl ⟨rfl, List.eq_nil_of_length_eq_zero h0⟩
  · refine .inr ⟨g, cap, rfl, hb, (Array.getElem?_eq_some_iff.1 hg).1, hn, fun j u hu => ?_⟩
    have hj : j < xs.length * 1 := by rw [Nat.mul_one]; exact (List.getElem?_eq_some_iff.1 hu).1
    have e := World.ownsRow.cellAt (w := w) (base := base) (e := 39) (size := 1) (g := g) (cap := cap) ⟨hl, .inr ⟨g, cap, cur, rfl, hb, hg, hn, hm, hs, ht⟩⟩ j hj
    rw [e, hu]
theorem OwnR.lt {w : World} {base : Nat} {v : Value} {xs : List Value} (h : OwnR w base v xs) : ∀ k, v.ownBlock = some k → base ≤ k ∧ k < w.heap.size := World.ownsRow.lt h
theorem OwnR.same {w w1 : World} {base : Nat} {v : Value} {xs : List Value} (h : OwnR w base v xs) (hs : ∀ g, v.ownBlock = some g → w1.heap[g]? = w.heap[g]?) : OwnR w1 base v xs := by
  obtain ⟨hl, h⟩ := h
  refine ⟨hl, ?_⟩
  rcases h with h | ⟨g, cap, cur, rfl, hg, hh, r⟩
  · exact .inl h
  · exact .inr ⟨g, cap, cur, rfl, hg, (hs g rfl).trans hh, r⟩
theorem OwnR.kept {w w1 : World} {base : Nat} {v : Value} {xs : List Value} (h : OwnR w base v xs) (hb : Below w.heap.size w w1) : OwnR w1 base v xs := h.same fun g hg => hb.block g (h.lt g hg).2
theorem OwnR.grown {w w1 : World} {base : Nat} {v : Value} {xs : List Value} {row : Option Nat} (h : OwnR w base v xs) (hg : w.grownBy w1 row) (hne : ∀ b, v.ownBlock = some b → row ≠ some b) : OwnR w1 base v xs :=
  h.same fun g hgg => hg.block g (h.lt g hgg).2 (fun e => hne g hgg e.symm)
theorem OwnK.grown {w w1 : World} {base : Nat} {v : Value} {L : List K} {row : Option Nat} (h : OwnK w base v L) (hg : w.grownBy w1 row) (hne : ∀ b, v.ownBlock = some b → row ≠ some b) : OwnK w1 base v L :=
  h.same fun g hgg => hg.block g (h.lt g hgg).2 (fun e => hne g hgg e.symm)

theorem infoR : (Tryd.prog.info? 39).map (fun i => (i.zero, i.size, i.bytes)) = some (some (.slice none 0 0), 1, 24) := by kernel_rfl
theorem run_append_rows {w : World} (ty : TypeId) (base : Nat) (v : Value) (xs : List Value) (hown : OwnR w base v xs) (B : Nat) (x : Value) (hx : w.cell? ⟨B, 0, none⟩ = some x) (h1 : x.oneCell' = true)
    (hlen : (xs.length + 1) * 24 ≤ 140737488355328) (hbase : base ≤ w.heap.size) :
    ∃ v' w', (Builtin.append_ #[88, 88] ty #[v, .slice (some ⟨B, 0, none⟩) 1 1]).run Tryd.prog w = .ok v' w' ∧ OwnR w' base v' (xs ++ [x]) ∧ w.grownBy w' v.ownBlock ∧ (v'.ownBlock = v.ownBlock ∨ v'.ownBlock = some w.heap.size) := by
  obtain ⟨i0, hi, hz0, hz1, hz2⟩ := info_parts infoR
  obtain ⟨v', w', hr, h2, h3, _, h5⟩ := run_append_own_at (P := Tryd.prog) w base 88 ty 39 i0 (.slice none 0 0) 1 24 Tryd.underlying88 hi hz0 hz1 hz2 rfl (by decide) v xs.length xs hown ⟨B, 0, none⟩ 1 1 [x] rfl
    (by
      intro j u hu
      match j, hu with
      | 0, hu => simp at hu; rw [addr_add, ← hu]; exact hx
      | j + 1, hu => simp at hu) (by simpa using h1) (by unfold maxLen; omega) hlen hbase
  exact ⟨v', w', hr, by unfold OwnR; rw [List.length_append]; exact h2, h3, h5⟩
theorem wpList_append_rows {w : World} {ops : Array Oper} {rest : List Oper} {o : Oper} {a : Act} {Q : Exit → Act → World → Prop} (hgd : o.guard = none) (s x : Operand)
    (ho : o.op = .call { callee := .builtin .append, args := #[s, x], argTypes := #[88, 88] }) (base : Nat) (v : Value) (xs : List Value) (hs : a.eval s = v) (hown : OwnR w base v xs)
    (B : Nat) (y : Value) (hx : a.eval x = .slice (some ⟨B, 0, none⟩) 1 1) (hy : w.cell? ⟨B, 0, none⟩ = some y) (h1 : y.oneCell' = true) (hlen : (xs.length + 1) * 24 ≤ 140737488355328) (hbase : base ≤ w.heap.size)
    (h : ∀ v' w', OwnR w' base v' (xs ++ [y]) → w.grownBy w' v.ownBlock → (v'.ownBlock = v.ownBlock ∨ v'.ownBlock = some w.heap.size) → wpList Tryd.prog ops Q rest (a.put o.dst v') w') : wpList Tryd.prog ops Q (o :: rest) a w := by
  obtain ⟨v', w', hr, h2, h3, h4⟩ := run_append_rows o.type base v xs hown B y hy h1 hlen hbase
  refine wpList_plain hgd fun K hK' => ?_
  unfold Oper.wp
  simp [execOp, ho, resolve, invoke, builtin, hs, hx, hr, Result.andThen]
  exact hK' _ _ (h v' w' h2 h3 h4)

/-- append at a slice of keys of the call's own: in place, or all that lay lies as it lay -/
theorem run_append_keys2 {w : World} (ty : TypeId) (base : Nat) (v : Value) (L : List K) (hown : OwnK w base v L)
    (ad : Addr) (m c : Nat) (M : List K) (hm : m = M.length) (hsrc : KeysAt w (some ad) M) (hlen : (L.length + M.length) * 16 ≤ 140737488355328) (hbase : base ≤ w.heap.size) :
    ∃ v' w', (Builtin.append_ #[39, 39] ty #[v, .slice (some ad) m c]).run Tryd.prog w = .ok v' w' ∧ OwnK w' base v' (L ++ M) ∧ ((v'.ownBlock = v.ownBlock ∧ w.grownBy w' v.ownBlock ∧ ∀ g n cap, v = own g n cap → ∃ n', v' = own g n' cap) ∨ (v'.ownBlock = some w.heap.size ∧ w.grownBy w' none)) := by
  obtain ⟨v', w', hr, h2, h3, h4⟩ := run_append_keys ty base v L hown (some ad) m c M hm hsrc (by simp) hlen hbase
  refine ⟨v', w', hr, h2, ?_⟩
  · obtain ⟨hl, h⟩ := hown
    rcases h with ⟨rfl, h0⟩ | ⟨g, cap, cur, rfl, hb, hg, hn, hcm, hs, ht⟩
    · rcases h4 with h4 | h4
      · exact .inl ⟨h4, h3, fun g n cap e => by cases e⟩
      · exact .inr ⟨h4, h3⟩
    · obtain ⟨i0, hi, hz0, hz1, hz2⟩ := info_parts infoK
      have hsrc' : ∀ j u, (cks M)[j]? = some u → w.cell? (ad.add j) = some u := by
        intro j u hu
        rcases hsrc with h0 | ⟨b, off, e, hc⟩
        · subst h0; simp [cks] at hu
        · cases e; rw [addr_add]; exact hc j u hu
      have hown' : w.ownsRow base 87 2 (.slice (some ⟨g, 0, none⟩) L.length cap) L.length (cks L) := ⟨hl, .inr ⟨g, cap, cur, rfl, hb, hg, hn, hcm, hs, ht⟩⟩
      by_cases hroom : L.length + m ≤ cap
      · obtain ⟨w2, hr2, _, h6⟩ := run_append_own_spare (P := Tryd.prog) (w := w) base 39 ty 87 i0 2 Tryd.underlying39 hi hz1 g L.length cap (cks L) hown' ad m c (cks M) (by rw [cks_length, hm]) hsrc' (cks_one M) hroom
        rw [hr] at hr2
        cases hr2
        exact .inl ⟨rfl, h6, fun g' n' cap' e => by cases e; exact ⟨_, rfl⟩⟩
      · have hgr := run_append_grow (P := Tryd.prog) w 39 ty 87 i0 (.agg #[.int .i64 0, .int .i64 0]) Tryd.underlying39 hi hz0 ⟨g, 0, none⟩ L.length cap (cks L) (by rw [cks_length, hz1])
          (fun j u hu => by rw [addr_add]; have hj : j < L.length * 2 := by rw [← cks_length]; exact (List.getElem?_eq_some_iff.1 hu).1
                            rw [Nat.zero_add, World.ownsRow.cellAt hown' j hj, hu])
          ad m c (cks M) (by rw [cks_length, hm, hz1]) hsrc' (by omega) (by omega) (by rw [hz2]; exact growslice_fits (by omega) (by rw [hm]; exact hlen))
        rw [hr] at hgr
        cases hgr
        exact .inr ⟨rfl, ⟨rfl, rfl, rfl, by simp, fun k hk _ => Below.heap_alloc w.drew _ k hk⟩⟩
theorem wpList_append_keys2 {w : World} {ops : Array Oper} {rest : List Oper} {o : Oper} {a : Act} {Q : Exit → Act → World → Prop} (hgd : o.guard = none) (s x : Operand)
    (ho : o.op = .call { callee := .builtin .append, args := #[s, x], argTypes := #[39, 39] }) (base : Nat) (v : Value) (L : List K) (hs : a.eval s = v) (hown : OwnK w base v L)
    (ad : Addr) (m c : Nat) (M : List K) (hx : a.eval x = .slice (some ad) m c) (hm : m = M.length) (hsrc : KeysAt w (some ad) M) (hlen : (L.length + M.length) * 16 ≤ 140737488355328) (hbase : base ≤ w.heap.size)
    (h : ∀ v' w', OwnK w' base v' (L ++ M) → ((v'.ownBlock = v.ownBlock ∧ w.grownBy w' v.ownBlock ∧ ∀ g n cap, v = own g n cap → ∃ n', v' = own g n' cap) ∨ (v'.ownBlock = some w.heap.size ∧ w.grownBy w' none)) → wpList Tryd.prog ops Q rest (a.put o.dst v') w') : wpList Tryd.prog ops Q (o :: rest) a w := by
  obtain ⟨v', w', hr, h2, h3⟩ := run_append_keys2 o.type base v L hown ad m c M hm hsrc hlen hbase
  refine wpList_plain hgd fun K hK' => ?_
  unfold Oper.wp
  simp [execOp, ho, resolve, invoke, builtin, hs, hx, hr, Result.andThen]
  exact hK' _ _ (h v' w' h2 h3)


theorem OwnR.set {w : World} {base g n cap : Nat} {xs : List Value} (h : OwnR w base (own g n cap) xs) (i : Nat) (v : Value) :
    OwnR (w.setCell ⟨g, i, none⟩ v) base (own g n cap) (xs.set i v) ∧ w.grownBy (w.setCell ⟨g, i, none⟩ v) (some g) := by
  have hn : n = xs.length := by
    rcases h.shape with ⟨e, _⟩ | ⟨g', c', e, _⟩
    · cases e
    · cases e; rfl
  subst hn
  have hs := World.ownsRow.stored h i v
  refine ⟨?_, hs.2⟩
  unfold OwnR
  rw [List.length_set]; exact hs.1
theorem OwnR.frozen {w : World} {base g n cap : Nat} {xs : List Value} (h : OwnR w base (own g n cap) xs) (j : Nat) : w.frozen? ⟨g, j, none⟩ = false := by
  obtain ⟨_, h0 | ⟨g', cap', cur, e, _, hg, _⟩⟩ := h
  · cases h0.1
  · cases e; exact frozen_of_row w g j _ _ hg
/-- a function changed at one place -/
def upd {α : Type} (f : Nat → α) (i : Nat) (v : α) : Nat → α := fun j => if j = i then v else f j
theorem upd_same {α : Type} (f : Nat → α) (i : Nat) (v : α) : upd f i v i = v := by simp [upd]
theorem upd_other {α : Type} (f : Nat → α) {i j : Nat} (v : α) (h : j ≠ i) : upd f i v j = f j := by simp [upd, h]
theorem range_upd {α : Type} (f : Nat → α) (N i : Nat) (v : α) : ((List.range N).map f).set i v = (List.range N).map (upd f i v) := by
  apply List.ext_getElem?
  intro j
  rw [List.getElem?_set]
  by_cases hij : i = j
  · subst hij
    simp only [if_pos, List.length_map, List.length_range]
    by_cases hi : i < N
    · simp [hi, upd]
    · simp [hi]
  · rw [if_neg hij]
    simp only [List.getElem?_map]
    by_cases hj : j < N
    · simp [hj, upd]
      intro h; exact absurd h.symm hij
    · simp [hj]
theorem range_snoc {α : Type} (f : Nat → α) (k : Nat) : (List.range (k + 1)).map f = (List.range k).map f ++ [f k] := by simp [List.range_succ]
theorem range_get {α : Type} (f : Nat → α) {N i : Nat} (h : i < N) : ((List.range N).map f)[i]? = some (f i) := by simp [h]
/-- the marks of the i-th piece -/
def mk1 (i k : Nat) : K := (-1 - (i : Int), (k : Int))
def mk2 (i k : Nat) : K := (-1000 - (i : Int), (k : Int))
def row1 (i m : Nat) : List K := (List.range m).map (mk1 i)
def row2 (i m : Nat) : List K := (List.range m).map (mk2 i)
theorem row1_length (i m : Nat) : (row1 i m).length = m := by simp [row1]
theorem row2_length (i m : Nat) : (row2 i m).length = m := by simp [row2]
/-- the i-th piece, its first k written -/
def mixR (i k : Nat) (L : List K) : List K := row1 i k ++ L.drop k
theorem mixR_zero (i : Nat) (L : List K) : mixR i 0 L = L := by simp [mixR, row1]
theorem mixR_full (i : Nat) (L : List K) : mixR i L.length L = row1 i L.length := by simp [mixR]
theorem mixR_length {i k : Nat} {L : List K} (h : k ≤ L.length) : (mixR i k L).length = L.length := by simp [mixR, row1_length]; omega
theorem mixR_set {i k : Nat} {L : List K} (h : k < L.length) : (mixR i k L).set k (mk1 i k) = mixR i (k + 1) L := by
  unfold mixR
  rw [List.set_append, if_neg (by rw [row1_length]; omega), row1_length, Nat.sub_self, List.drop_eq_getElem_cons h, List.set_cons_zero]
  unfold row1
  rw [range_snoc, List.append_assoc]; rfl
/-- the code's value -/
def cv (x : Pr) : Value := .slice x.ao x.n x.cap
theorem cv_block (x : Pr) : (cv x).ownBlock = cb x := rfl
/-- the pieces lie apart -/
def Apt (Ps : List Pr) : Prop := ∀ i j, i < Ps.length → j < Ps.length → i ≠ j → ∀ g, cb (pd Ps i) = some g → cb (pd Ps j) ≠ some g
theorem Apt.of {Ps : List Pr} (h : Ps.Pairwise fun x y => ∀ g, cb x = some g → cb y ≠ some g) : Apt Ps := by
  intro i j hi hj hij g hg e
  rw [List.pairwise_iff_getElem] at h
  have e1 : pd Ps i = Ps[i] := by simp [pd, List.getD_eq_getElem?_getD, List.getElem?_eq_getElem hi]
  have e2 : pd Ps j = Ps[j] := by simp [pd, List.getD_eq_getElem?_getD, List.getElem?_eq_getElem hj]
  rw [e1] at hg
  rw [e2] at e
  rcases Nat.lt_or_gt_of_ne hij with h1 | h1
  · exact h i j hi hj h1 g hg e
  · exact h j i hj hi h1 g e hg
/-- WHILE THE CODE IS WRITTEN OVER -/
structure P1 (w W : World) (base : Nat) (Ps : List Pr) (Z : Nat → List K) : Prop where
  pc : ∀ i, i < Ps.length → OwnK W base (cv (pd Ps i)) (Z i)
  frame : ∀ g, g < w.heap.size → (∀ i, i < Ps.length → cb (pd Ps i) ≠ some g) → W.heap[g]? = w.heap[g]?
  bel : Below base w W
  sz : w.heap.size ≤ W.heap.size
theorem P1.same {w W W' : World} {base : Nat} {Ps : List Pr} {Z : Nat → List K} {row : Option Nat} (h : P1 w W base Ps Z) (hb : base ≤ w.heap.size) (hg : W.grownBy W' row) (hr : ∀ k, row = some k → w.heap.size ≤ k) (hlt : ∀ i, i < Ps.length → ∀ g, cb (pd Ps i) = some g → g < w.heap.size) : P1 w W' base Ps Z := by
  have hs : ∀ g, g < w.heap.size → W'.heap[g]? = W.heap[g]? := fun g hgl => hg.block g (Nat.lt_of_lt_of_le hgl h.sz) (fun e => by have := hr g e.symm; omega)
  refine ⟨fun i hi => (h.pc i hi).same fun g hg' => hs g (hlt i hi g hg'), fun g hgl hn => (hs g hgl).trans (h.frame g hgl hn), ?_, Nat.le_trans h.sz hg.size⟩
  exact ⟨hg.os.trans h.bel.os, hg.tape.trans h.bel.tape, hg.output.trans h.bel.output, Nat.le_trans h.bel.size hg.size, fun k hk => (hs k (by omega)).trans (h.bel.block k hk)⟩
theorem P1.set {w W W' : World} {base i : Nat} {Ps : List Pr} {Z : Nat → List K} {L : List K} (h : P1 w W base Ps Z) (ha : Apt Ps) (hb : base ≤ w.heap.size) (hi : i < Ps.length) (ho : OwnK W' base (cv (pd Ps i)) L) (hg : W.grownBy W' (cb (pd Ps i))) : P1 w W' base Ps (upd Z i L) := by
  have hs : ∀ g, g < W.heap.size → cb (pd Ps i) ≠ some g → W'.heap[g]? = W.heap[g]? := fun g hgl hn => hg.block g hgl (fun e => hn e.symm)
  refine ⟨fun j hj => ?_, fun g hgl hn => (hs g (Nat.lt_of_lt_of_le hgl h.sz) (hn i hi)).trans (h.frame g hgl hn), ?_, Nat.le_trans h.sz hg.size⟩
  · by_cases hji : j = i
    · subst hji; rw [upd_same]; exact ho
    · rw [upd_other _ _ hji]
      exact (h.pc j hj).same fun g hg' => hs g ((h.pc j hj).lt g hg').2 (ha j i hj hi hji g hg')
  · exact ⟨hg.os.trans h.bel.os, hg.tape.trans h.bel.tape, hg.output.trans h.bel.output, Nat.le_trans h.bel.size hg.size, fun k hk => (hs k (Nat.lt_of_lt_of_le (by omega) h.sz) (fun e => by have := ((h.pc i hi).lt k e).1; omega)).trans (h.bel.block k hk)⟩
/-- WHILE THE PIECES ARE GROWN -/
structure P3 (w W : World) (base : Nat) (Ps : List Pr) (rv : Value) (mv : Nat → Value) (t : Nat → Nat) : Prop where
  code : ∀ i, i < Ps.length → KeysAt W (pd Ps i).ao (row1 i (pd Ps i).n)
  pc : ∀ i, i < Ps.length → OwnK W base (mv i) (row1 i (pd Ps i).n ++ row2 i (t i))
  wh : ∀ i, i < Ps.length → ∀ g, (mv i).ownBlock = some g → cb (pd Ps i) = some g ∨ w.heap.size ≤ g
  dis : ∀ i j, i < Ps.length → j < Ps.length → i ≠ j → ∀ g, (mv i).ownBlock = some g → (mv j).ownBlock ≠ some g
  row : OwnR W base rv ((List.range Ps.length).map mv)
  rr : ∀ g, rv.ownBlock = some g → w.heap.size ≤ g ∧ ∀ i, i < Ps.length → (mv i).ownBlock ≠ some g
  frame : ∀ g, g < w.heap.size → (∀ i, i < Ps.length → cb (pd Ps i) ≠ some g) → W.heap[g]? = w.heap[g]?
  bel : Below base w W
  sz : w.heap.size ≤ W.heap.size
  bw : base ≤ w.heap.size
theorem keys_same {W W' : World} {ao : Option Addr} {L : List K} (h : KeysAt W ao L) (hs : ∀ g off, ao = some ⟨g, off, none⟩ → W'.heap[g]? = W.heap[g]?) : KeysAt W' ao L := by
  rcases h with h | ⟨b, off, rfl, hc⟩
  · exact .inl h
  · refine .inr ⟨b, off, rfl, fun j u hu => ?_⟩
    have := hc j u hu
    simp only [World.cell?] at this ⊢
    rw [hs b off rfl]; exact this
theorem keys_prefix {W : World} {g : Nat} {A B : List K} (h : KeysAt W (some ⟨g, 0, none⟩) (A ++ B)) : KeysAt W (some ⟨g, 0, none⟩) A := by
  rcases h with h | ⟨b, off, e, hc⟩
  · left; simp at h; exact h.1
  · refine .inr ⟨b, off, e, fun j u hu => hc j u ?_⟩
    rw [cks_append, List.getElem?_append_left (List.getElem?_eq_some_iff.1 hu).1]; exact hu
/-- what every piece is -/
structure Pcs (w : World) (Ps : List Pr) : Prop where
  apt : Apt Ps
  lt : ∀ i, i < Ps.length → ∀ g, cb (pd Ps i) = some g → g < w.heap.size
  head : ∀ i, i < Ps.length → ∀ g off, (pd Ps i).ao = some ⟨g, off, none⟩ → off = 0
theorem P3.kept {w W W' : World} {base : Nat} {Ps : List Pr} {rv : Value} {mv : Nat → Value} {t : Nat → Nat} (h : P3 w W base Ps rv mv t) (hb : Below W.heap.size W W') : P3 w W' base Ps rv mv t :=
  ⟨fun i hi => (h.code i hi).kept hb, fun i hi => (h.pc i hi).kept hb, h.wh, h.dis, h.row.kept hb, h.rr, fun g hg hn => (hb.block g (Nat.lt_of_lt_of_le hg h.sz)).trans (h.frame g hg hn), h.bel.trans (hb.mono (Nat.le_trans h.bw h.sz)), Nat.le_trans h.sz hb.size, h.bw⟩
theorem row2_snoc (i m : Nat) : row2 i (m + 1) = row2 i m ++ [mk2 i m] := range_snoc _ _
theorem P3.put {w W W' : World} {base i R n c : Nat} {Ps : List Pr} {mv : Nat → Value} {t : Nat → Nat} {v' : Value} (h : P3 w W base Ps (own R n c) mv t) (hp : Pcs w Ps) (hi : i < Ps.length)
    (ho : OwnK W' base v' (row1 i (pd Ps i).n ++ row2 i (t i) ++ [mk2 i (t i)]))
    (ha : (v'.ownBlock = (mv i).ownBlock ∧ W.grownBy W' (mv i).ownBlock ∧ ∀ g n cap, mv i = own g n cap → ∃ n', v' = own g n' cap) ∨ (v'.ownBlock = some W.heap.size ∧ W.grownBy W' none)) :
    P3 w (W'.setCell ⟨R, i, none⟩ v') base Ps (own R n c) (upd mv i v') (upd t i (t i + 1)) := by
  obtain ⟨hR1, hR2⟩ := h.rr R rfl
  have hRl : R < W.heap.size := (h.row.lt R rfl).2
  have hRb : base ≤ R := (h.row.lt R rfl).1
  have hsz : W.heap.size ≤ W'.heap.size := by rcases ha with ⟨_, hg, _⟩ | ⟨_, hg⟩ <;> exact hg.size
  have hs : ∀ g, g < W.heap.size → (mv i).ownBlock ≠ some g → W'.heap[g]? = W.heap[g]? := fun g hg hn => by
    rcases ha with ⟨_, hgr, _⟩ | ⟨_, hgr⟩
    · exact hgr.block g hg (fun e => hn e.symm)
    · exact hgr.block g hg (fun e => by cases e)
  have hst : ∀ g, g ≠ R → (W'.setCell ⟨R, i, none⟩ v').heap[g]? = W'.heap[g]? := fun g hg => heap_setCell_other W' ⟨R, i, none⟩ g v' hg
  have hs2 : ∀ g, g < W.heap.size → (mv i).ownBlock ≠ some g → g ≠ R → (W'.setCell ⟨R, i, none⟩ v').heap[g]? = W.heap[g]? := fun g h1 h2 h3 => (hst g h3).trans (hs g h1 h2)
  have hvR : v'.ownBlock ≠ some R := by
    rcases ha with ⟨e, _⟩ | ⟨e, _⟩
    · rw [e]; exact hR2 i hi
    · rw [e]; intro e'; cases e'; omega
  refine ⟨fun j hj => ?_, fun j hj => ?_, fun j hj g hg => ?_, fun j k hj hk hjk g hg => ?_, ?_, fun g hg => ?_, fun g hg hn => ?_, ?_, ?_, h.bw⟩
  · by_cases hcase : ∃ g, cb (pd Ps j) = some g ∧ (mv i).ownBlock = some g
    · obtain ⟨g, hg1, hg2⟩ := hcase
      have hglt := hp.lt j hj g hg1
      have hji : j = i := by
        rcases h.wh i hi g hg2 with h1 | h1
        · by_cases e : j = i
          · exact e
          · exact absurd h1 (hp.apt j i hj hi e g hg1)
        · omega
      subst hji
      rcases ha with ⟨_, _, hin⟩ | ⟨_, hgr⟩
      · -- in place
        rcases (h.pc j hj).shape with ⟨e, _⟩ | ⟨g', c', e, _⟩
        · rw [e] at hg2; cases hg2
        · rw [e] at hg2
          obtain rfl : g = g' := by have := hg2; simp [Value.ownBlock] at this; exact this.symm
          obtain ⟨n', rfl⟩ := hin g _ c' e
          rcases ho.shape with ⟨e', _⟩ | ⟨g2, c2, e', _, _, _, _, hk⟩
          · cases e'
          · simp only [Value.slice.injEq, Option.some.injEq, Addr.mk.injEq, and_true] at e'
            obtain ⟨rfl, _, rfl⟩ := e'
            have hk2 := keys_prefix (keys_prefix hk)
            have hk3 := keys_same (W' := W'.setCell ⟨R, j, none⟩ (own g n' c')) hk2 (fun g0 off e => by cases e; exact hst g (by omega))
            rcases hao : (pd Ps j).ao with _ | ⟨b, off, sel⟩
            · rcases h.code j hj with h0 | ⟨b', off', e2, _⟩
              · exact .inl h0
              · rw [hao] at e2; cases e2
            · rcases h.code j hj with h0 | ⟨b', off', e2, _⟩
              · exact .inl h0
              · rw [hao] at e2
                cases e2
                have h0 := hp.head j hj b off hao
                subst h0
                have hbg : b = g := by
                  have : cb (pd Ps j) = some b := by unfold cb; rw [hao]; rfl
                  rw [this] at hg1; cases hg1; rfl
                rw [hbg]; exact hk3
      · refine keys_same (h.code j hj) (fun g0 off e => ?_)
        have hg0 : cb (pd Ps j) = some g0 := by unfold cb; rw [e]; rfl
        have hl0 := hp.lt j hj g0 hg0
        rw [hst g0 (by omega)]
        exact hgr.block g0 (Nat.lt_of_lt_of_le hl0 h.sz) (fun e => by cases e)
    · refine keys_same (h.code j hj) (fun g0 off e => ?_)
      have hg0 : cb (pd Ps j) = some g0 := by unfold cb; rw [e]; rfl
      have hl0 := hp.lt j hj g0 hg0
      exact hs2 g0 (Nat.lt_of_lt_of_le hl0 h.sz) (fun e => hcase ⟨g0, hg0, e⟩) (by omega)
  · by_cases hji : j = i
    · subst hji
      rw [upd_same, upd_same, row2_snoc, ← List.append_assoc]
      exact ho.same fun g hg => hst g (fun e => hvR (by rw [← e]; exact hg))
    · rw [upd_other _ _ hji, upd_other _ _ hji]
      exact (h.pc j hj).same fun g hg => hs2 g ((h.pc j hj).lt g hg).2 (fun e => h.dis i j hi hj (fun e => hji e.symm) g e hg) (fun e => hR2 j hj (by rw [← e]; exact hg))
  · by_cases hji : j = i
    · subst hji
      rw [upd_same] at hg
      rcases ha with ⟨e, _⟩ | ⟨e, _⟩
      · rw [e] at hg; exact h.wh j hj g hg
      · rw [e] at hg; cases hg; exact .inr h.sz
    · rw [upd_other _ _ hji] at hg; exact h.wh j hj g hg
  · have key : ∀ m, m < Ps.length → m ≠ i → ∀ g, v'.ownBlock = some g → (mv m).ownBlock ≠ some g := fun m hm hmi g hg e => by
      rcases ha with ⟨e', _⟩ | ⟨e', _⟩
      · rw [e'] at hg; exact h.dis m i hm hi hmi g e hg
      · rw [e'] at hg; cases hg; have := ((h.pc m hm).lt _ e).2; omega
    by_cases hji : j = i
    · subst hji
      rw [upd_same] at hg
      rw [upd_other _ _ (fun e => hjk e.symm)]
      exact key k hk (fun e => hjk e.symm) g hg
    · rw [upd_other _ _ hji] at hg
      by_cases hki : k = i
      · subst hki
        rw [upd_same]
        intro e; exact key j hj hji g e hg
      · rw [upd_other _ _ hki]; exact h.dis j k hj hk hjk g hg
  · have hr : OwnR W' base (own R n c) ((List.range Ps.length).map mv) := h.row.same fun g hg => hs g (h.row.lt g hg).2 (fun e => (h.rr g hg).2 i hi e)
    have := (hr.set i v').1
    rw [range_upd] at this
    exact this
  · cases hg
    refine ⟨hR1, fun j hj => ?_⟩
    by_cases hji : j = i
    · subst hji; rw [upd_same]; exact hvR
    · rw [upd_other _ _ hji]; exact hR2 j hj
  · rw [hs2 g (Nat.lt_of_lt_of_le hg h.sz) (fun e => by
      rcases h.wh i hi g e with h1 | h1
      · exact hn i hi h1
      · omega) (by omega)]
    exact h.frame g hg hn
  · have hos : W'.os = W.os ∧ W'.tape = W.tape ∧ W'.output = W.output := by rcases ha with ⟨_, hg, _⟩ | ⟨_, hg⟩ <;> exact ⟨hg.os, hg.tape, hg.output⟩
    have hgs := grown_setCell W' ⟨R, i, none⟩ v'
    refine ⟨hgs.os.trans (hos.1.trans h.bel.os), hgs.tape.trans (hos.2.1.trans h.bel.tape), hgs.output.trans (hos.2.2.trans h.bel.output), Nat.le_trans h.bel.size (Nat.le_trans hsz hgs.size), fun k hk => ?_⟩
    have hbw := h.bw
    rw [hs2 k (Nat.lt_of_lt_of_le (by omega) h.sz) (fun e => by have := ((h.pc i hi).lt k e).1; omega) (by omega)]
    exact h.bel.block k hk
  · exact Nat.le_trans h.sz (Nat.le_trans hsz (grown_setCell W' ⟨R, i, none⟩ v').size)
/-- when the row of pieces is laid -/
theorem P3.of {w W : World} {base : Nat} {Ps : List Pr} {rv : Value} (h : P1 w W base Ps (fun i => row1 i (pd Ps i).n)) (hp : Pcs w Ps) (hr : OwnR W base rv ((List.range Ps.length).map fun i => cv (pd Ps i))) (hrr : ∀ g, rv.ownBlock = some g → w.heap.size ≤ g) (hbw : base ≤ w.heap.size) : P3 w W base Ps rv (fun i => cv (pd Ps i)) (fun _ => 0) := by
  refine ⟨fun i hi => ?_, fun i hi => ?_, fun i hi g hg => .inl hg, fun i j hi hj hij g hg => hp.apt i j hi hj hij g hg, hr, fun g hg => ⟨hrr g hg, fun i hi e => ?_⟩, h.frame, h.bel, h.sz, hbw⟩
  · obtain ⟨ao, cap, e, hk, _, _⟩ := (h.pc i hi).slice
    have e' : (Value.slice (pd Ps i).ao (pd Ps i).n (pd Ps i).cap) = .slice ao _ cap := e
    simp only [Value.slice.injEq] at e'
    rw [e'.1]; exact hk
  · have e0 : row2 i 0 = [] := rfl
    rw [e0, List.append_nil]; exact h.pc i hi
  · have h1 := hp.lt i hi g e
    have := hrr g hg
    omega
end Go.Proofs.YtkjmeknaedapjaaDoor
