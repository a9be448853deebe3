/-
  THE WALKS OF preluderef01.Reader's METHODS over bytes that are not its own: Raw, Byte.
-/
import Derived.Test.YtjmlogljfboleaaMGen
import Derived.Test.YtjmlogljfboleaaRefNum
import Derived.Deep.RegionLaw
namespace Go.Proofs.Ytjmlogljfboleaa
open Go.RowKit

theorem take_more (b : List Nat) (p i : Nat) (h : p + i < b.length) : (b.drop p).take (i + 1) = (b.drop p).take i ++ [b.getD (p + i) 0] := by
  rw [List.take_succ_eq_append_getElem (by rw [List.length_drop]; omega), List.getElem_drop, List.getD_eq_getElem?_getD, List.getElem?_eq_getElem h]
  rfl

theorem grown_own {w wr w1 : World} {v : Value} {r : Nat} (h : w.grownBy wr (some r)) (hv : ∀ k, v.ownBlock = some k → w.heap.size ≤ k) (hg : wr.grownBy w1 v.ownBlock) : w.grownBy w1 (some r) :=
  ⟨hg.os.trans h.os, hg.tape.trans h.tape, hg.output.trans h.output, Nat.le_trans h.size hg.size, fun k hk hne => (hg.block k (Nat.lt_of_lt_of_le hk h.size) (fun e => by have := hv k e.symm; omega)).trans (h.block k hk hne)⟩
theorem IsMod.grown {w w1 : World} {r : Nat} {ad : Option Addr} {c : Nat} {b : List Nat} {p : Nat} {e : Int} {row : Option Nat} (h : IsMod w r ad c b p e) (hg : w.grownBy w1 row) (h1 : row ≠ some r) (h2 : ∀ k, row = some k → ∀ x, b ≠ [] → ad = some x → x.block ≠ k) : IsMod w1 r ad c b p e := by
  refine ⟨(hg.block r h.lt (fun e => h1 e.symm)).trans h.1, ⟨h.2.1.1, ?_⟩, h.2.2⟩
  by_cases h0 : b = []
  · exact .inl h0
  · obtain ⟨g, off, rfl, hc⟩ := h.2.1.2.resolve_left h0
    refine .inr ⟨g, off, rfl, fun j hj => ?_⟩
    have hj1 := hc j hj
    have hlt := h.2.1.lt _ h0 rfl
    simp only [World.cell?] at hj1 ⊢
    rw [hg.block g hlt (fun e => h2 g e.symm _ h0 rfl rfl)]; exact hj1

set_option maxHeartbeats 1000000 in
theorem uRaw_any (w : World) (r : Nat) (ad : Option Addr) (c : Nat) (b : List Nat) (p : Nat) (e : Int) (n : Int) (h : IsMod w r ad c b p e) :
    Calls Try.prog 72 #[.pointer (some ⟨r, 0, none⟩), .int .i64 n] w fun e' w' => ∃ v, e' = .returned v ∧ OwnB w' w.heap.size v (rdRaw b p e n).1 ∧ Mods w r ad c b (rdRaw b p e n).2.1 (rdRaw b p e n).2.2 w' := by
  have HR : Hid (IsMod w r ad c b p e) := h
  have h0 := h.c0
  have h1 := h.c1
  have h2 := h.c2
  have f2 := h.frozen 2
  have hp := h.2.2.1
  have hl := h.2.2.2.1
  clear h
  by_cases he : e = 0
  · subst he
    by_cases hn : n < 0
    · have HE : Hid (rdRaw b p 0 n = ([], p, 11)) := by unfold rdRaw; rw [Hid, if_neg (by simp), if_pos hn]
      have HW' : Hid (Mods w r ad c b p 11 (w.setCell ⟨r, 2, none⟩ (.int .i64 11))) := ⟨HR.out.setErr 11, grown_setCell w ⟨r, 2, none⟩ _⟩
      go_enter Try.func72, Try.ntmps72
      go_wp2
      go_ret
      exact ⟨_, rfl, by rw [HE.out]; exact OwnB.nil _ _, by rw [HE.out]; exact HW'.out⟩
    · obtain ⟨m, rfl⟩ := Int.eq_ofNat_of_zero_le (show 0 ≤ n by omega)
      by_cases hgt : b.length - p < m
      · have hgt' : (b.length : Int) - (p : Int) < (m : Int) := by omega
        have HE : Hid (rdRaw b p 0 (m : Int) = ([], p, 10)) := by unfold rdRaw; rw [Hid, if_neg (by simp), if_neg (by omega), if_pos (by omega)]
        have HW' : Hid (∀ nq, Mods w r ad c b p 10 ((w.setCell ⟨r, 2, none⟩ (.int .i64 10)).drewN nq)) := fun nq => ⟨HR.out.setErr 10, grown_trans' (grown_setCell w ⟨r, 2, none⟩ _) (grown_drewN _ _ _)⟩
        clear hgt
        go_enter Try.func72, Try.ntmps72
        go_wp2
        go_quiet (fail)
        have HF := HW'.out nq
        go_wp2
        go_ret
        exact ⟨_, rfl, by rw [HE.out]; exact OwnB.nil _ _, by rw [HE.out]; exact HF⟩
      · have hgt' : ¬ (b.length : Int) - (p : Int) < (m : Int) := by omega
        have HE : Hid (rdRaw b p 0 (m : Int) = ((b.drop p).take m, p + m, 0)) := by unfold rdRaw; rw [Hid, if_neg (by simp), if_neg (by omega), if_neg (by omega)]; rfl
        have hpm : p + m ≤ b.length := by omega
        have hrl : r < w.heap.size := HR.out.lt
        have HGL : Hid (∀ x, b ≠ [] → ad = some x → x.block < w.heap.size) := fun x h0 h1 => HR.out.2.1.lt x h0 h1
        clear hgt
        go_enter Try.func72, Try.ntmps72
        go_wp2
        go_quiet (fail)
        have HR0 : Hid (IsMod (w.drewN nq) r ad c b p 0) := HR.out
        have HG0 : Hid (w.grownBy (w.drewN nq) (some r)) := grown_drewN _ _ _
        generalize w.drewN nq = w0 at *
        clear h0 h1 h2 f2
        go_wp2
        go_loopw [5, 6] (fun x y wr => ∃ (i : Nat) (v : Value), i ≤ m ∧ x = v ∧ y = .int .i64 (i : Int) ∧ Hid (OwnB wr w.heap.size v ((b.drop p).take i)) ∧ Hid (IsMod wr r ad c b p 0) ∧ Hid (w.grownBy wr (some r))) (fun _ y _ => m - (intOf y).toNat)
        case atStart => exact ⟨0, _, Nat.zero_le _, rfl, rfl, OwnB.nil _ _, HR0, HG0⟩
        case round =>
          clear HR0 HG0
          obtain ⟨i, v, hi, hxv, rfl, HO, HM, HG⟩ := hrel
          have hxv' := hxv.symm
          subst hxv'
          have k0 := HM.out.c0
          have k1 := HM.out.c1
          have HVN : Hid (∀ k, v.ownBlock = some k → w.heap.size ≤ k) := fun k hk => (HO.out.2.lt k hk).1
          by_cases hlt : i < m
          · have hlt' : (i : Int) < (m : Int) := by omega
            obtain ⟨z, hz⟩ : ∃ z, b.getD (p + i) 0 = z := ⟨_, rfl⟩
            have hz256 : z < 256 := by rw [← hz]; exact getD_lt HM.out.2.1.1 _
            have hbne : b ≠ [] := by intro e; rw [e] at hpm; simp at hpm; omega
            obtain ⟨g, o, had, hcc⟩ := HM.out.2.1.2.resolve_left hbne
            have kc : wr.cell? ⟨g, o + (p + i), none⟩ = some (.int .u8 (z : Int)) := by rw [← hz]; exact hcc (p + i) (by omega)
            rw [had] at k0
            clear had hcc hbne
            have HTK : Hid ((b.drop p).take (i + 1) = (b.drop p).take i ++ [z]) := by rw [Hid, ← hz]; exact take_more b p i (by omega)
            have hwr : IntKind.i64.wrap ((p : Int) + (i : Int)) = ((p + i : Nat) : Int) := by rw [IntKind.wrap_i64]; omega
            have hwl : w.heap.size ≤ wr.heap.size := HG.out.size
            have hil : ((b.drop p).take i).length = i := by rw [List.length_take, List.length_drop]; omega
            have HIL : Hid (((b.drop p).take i).length = i) := hil
            have hx0 : 0 ≤ (p : Int) + (i : Int) ∧ (p : Int) + (i : Int) < (b.length : Int) := by omega
            have htn : ((p : Int) + (i : Int)).toNat = p + i := by omega
            clear hz hil
            go_wp2
            go_region_law (refine step_append_bytes rfl _ _ rfl w.heap.size _ ((b.drop p).take i) rfl (OwnB.alloc (w := wr.drew) HO.out _) _ _ _ [z] rfl rfl (byte_src wr.drew _ z rfl hz256) (by simp) (by rw [HIL.out]; simp; omega) (by simp; omega) ?_; intro v' w1 hown1 hgrow1 hat1)
            all_goals
              have hg1 := grown_alloc (w := wr.drew) w1 hgrow1
              have HO1 : Hid (OwnB w1 w.heap.size v' ((b.drop p).take (i + 1))) := by rw [HTK.out]; exact hown1
              have HM1 : Hid (IsMod w1 r ad c b p 0) := IsMod.grown (w := wr.drew) HM.out hg1 (fun e => by have := HVN.out _ e; omega) (fun k hk x h0 h1 e => by have := HVN.out _ hk; have := HGL.out x h0 h1; omega)
              have HG1 : Hid (w.grownBy w1 (some r)) := grown_own (wr := wr.drew) (grown_trans' HG.out (grown_drewN wr 1 _)) HVN.out hg1
            all_goals go_wp2
            all_goals go_roundw
            all_goals first | exact ⟨i + 1, v', by omega, rfl, by go_num, HO1, HM1, HG1⟩ | (simp [intOf]; omega)
          · obtain rfl : i = m := by omega
            have f1 := HM.out.frozen 1
            have hwr : IntKind.i64.wrap ((p : Int) + (i : Int)) = ((p + i : Nat) : Int) := by rw [IntKind.wrap_i64]; omega
            have HM1 : Hid (IsMod (wr.setCell ⟨r, 1, none⟩ (.int .i64 ((p : Int) + (i : Int)))) r ad c b (p + i) 0) := HM.out.setAt (p + i) hpm
            have HG1 : Hid (w.grownBy (wr.setCell ⟨r, 1, none⟩ (.int .i64 ((p : Int) + (i : Int)))) (some r)) := grown_trans' HG.out (grown_setCell wr ⟨r, 1, none⟩ _)
            have HO1 : Hid (OwnB (wr.setCell ⟨r, 1, none⟩ (.int .i64 ((p : Int) + (i : Int)))) w.heap.size v ((b.drop p).take i)) := HO.out.grown (grown_setCell wr ⟨r, 1, none⟩ _) (.inr (fun e => by have := HVN.out _ e; simp at this; omega))
            go_wp2
            go_ret
            exact ⟨v, rfl, by rw [HE.out]; exact HO1.out, by rw [HE.out]; exact ⟨HM1.out, HG1.out⟩⟩
  · have he' : (e != 0) = true := by rw [bne_iff_ne]; exact he
    have HE : Hid (rdRaw b p e n = ([], p, e)) := by unfold rdRaw; rw [Hid, if_pos he]
    clear he
    go_enter Try.func72, Try.ntmps72
    go_wp2
    go_ret
    exact ⟨_, rfl, by rw [HE.out]; exact OwnB.nil _ _, by rw [HE.out]; exact ⟨HR.out, World.grownBy.refl _ _⟩⟩

theorem uByte_any (w : World) (r : Nat) (ad : Option Addr) (c : Nat) (b : List Nat) (p : Nat) (e : Int) (h : IsMod w r ad c b p e) :
    Calls Try.prog 53 #[.pointer (some ⟨r, 0, none⟩)] w fun e' w' => e' = .returned (.int .u8 (((rdByte b p e).1 : Nat) : Int)) ∧ Mods w r ad c b (rdByte b p e).2.1 (rdByte b p e).2.2 w' := by
  have HB : Hid ((rdRaw b p e 1 = ([], (rdByte b p e).2.1, (rdByte b p e).2.2) ∧ (rdByte b p e).1 = 0) ∨ rdRaw b p e 1 = ([(rdByte b p e).1], (rdByte b p e).2.1, (rdByte b p e).2.2)) := by
    have hp := h.2.2.1
    unfold rdRaw rdByte
    by_cases he : e ≠ 0
    · rw [if_pos he, if_pos he]; exact .inl ⟨rfl, rfl⟩
    · rw [if_neg he, if_neg he, if_neg (by decide)]
      by_cases hpl : p = b.length
      · rw [if_pos (by omega), if_pos hpl]; exact .inl ⟨rfl, rfl⟩
      · rw [if_neg (by omega), if_neg hpl]
        refine .inr ?_
        have := take_more b p 0 (by omega)
        rw [Nat.zero_add, Nat.add_zero] at this
        rw [show ((1 : Int).toNat) = 1 from rfl, this]
        rfl
  have HR : Hid (IsMod w r ad c b p e) := h
  clear h
  generalize rdByte b p e = s at *
  go_enter Try.func53, Try.ntmps53
  go_wp2_with fail
  refine (uRaw_any w r ad c b p e 1 HR.out).mono ?_
  rintro e1 w1 ⟨v, rfl, hown, hm⟩
  rcases HB.out with ⟨hb, hz⟩ | hb
  · rw [hb] at hown hm
    obtain ⟨a', c', hv, _, _, _⟩ := hown.slice
    subst hv
    have HM : Hid (Mods w r ad c b s.2.1 s.2.2 w1) := hm
    have HZ : Hid (s.1 = 0) := hz
    clear hown hm hb hz HB
    go_wp2
    go_ret
    exact ⟨by rw [HZ.out]; rfl, HM.out⟩
  · rw [hb] at hown hm
    rcases hown.shape with ⟨_, h0⟩ | ⟨g', cap, hv, _, _, _, _, hbb⟩
    · cases h0
    · subst hv
      have HM : Hid (Mods w r ad c b s.2.1 s.2.2 w1) := hm
      have hc := OwnB.cell hown 0 (by simp)
      have hc' : w1.cell? ⟨g', 0, none⟩ = some (.int .u8 ((s.1 : Nat) : Int)) := hc
      clear hown hm hb HB hbb hc
      go_wp2
      go_ret
      exact ⟨rfl, HM.out⟩

end Go.Proofs.Ytjmlogljfboleaa
