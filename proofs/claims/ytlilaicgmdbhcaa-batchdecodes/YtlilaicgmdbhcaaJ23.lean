import Derived.Test.YtlilaicgmdbhcaaJ22
import Derived.Deep.RegionLaw
import Derived.Test.YtlilaicgmdbhcaaJ09
/-
  THE WALKS OF preluderef01.Reader's METHODS over bytes that are not its own: Raw, Byte.
-/
namespace Go.Proofs.Ytlilaicgmdbhcaa
open Go.RowKit

theorem take_more (b : List Nat) (p i : Nat) (h : p + i < b.length) : (b.drop p).take (i + 1) = (b.drop p).take i ++ [b.getD (p + i) 0] := by
  rw [List.take_succ_eq_append_getElem (by rw [List.length_drop]; omega), List.getElem_drop, List.getD_eq_getElem?_getD, List.getElem?_eq_getElem h]
  rfl

theorem grown_own {w wr w1 : World} {v : Value} {r : Nat} (h : w.grownBy wr (some r)) (hv : ∀ k, v.ownBlock = some k → w.heap.size ≤ k) (hg : wr.grownBy w1 v.ownBlock) : w.grownBy w1 (some r) :=
  ⟨hg.os.trans h.os, hg.tape.trans h.tape, hg.output.trans h.output, Nat.le_trans h.size hg.size, fun k hk hne => (hg.block k (Nat.lt_of_lt_of_le hk h.size) (fun e => by have := hv k e.symm; omega)).trans (h.block k hk hne)⟩
theorem IsMod.grown {w w1 : World} {r : Nat} {ad : Option Addr} {c : Nat} {b : List Nat} {p : Nat} {e : Int} {row : Option Nat} (h : IsMod w r ad c b p e) (hg : w.grownBy w1 row) (h1 : row ≠ some r) (h2 : ∀ k, row = some k → ∀ x, b ≠ [] → ad = some x → x.block ≠ k) : IsMod w1 r ad c b p e := by
  refine ⟨(hg.block r h.lt (fun e => h1 e.symm)).trans h.1, ⟨h.2.1.1, ?_⟩, h.2.2⟩
  by_cases h0 : b = []
  · exact .inl h0
  · obtain ⟨g, off, rfl, hc⟩ := h.2.1.2.resolve_left h0
    refine .inr ⟨g, off, rfl, fun j hj => ?_⟩
    have hj1 := hc j hj
    have hlt := h.2.1.lt _ h0 rfl
    simp only [World.cell?] at hj1 ⊢
    rw [hg.block g hlt (fun e => h2 g e.symm _ h0 rfl rfl)]; exact hj1

set_option maxHeartbeats 1000000 in
theorem uRaw_any (w : World) (r : Nat) (ad : Option Addr) (c : Nat) (b : List Nat) (p : Nat) (e : Int) (n : Int) (h : IsMod w r ad c b p e) :
    Calls Try.prog 82 #[.pointer (some ⟨r, 0, none⟩), .int .i64 n] w fun e' w' => ∃ v, e' = .returned v ∧ OwnB w' w.heap.size v (rdRaw b p e n).1 ∧ Mods w r ad c b (rdRaw b p e n).2.1 (rdRaw b p e n).2.2 w' := by
  have HR : Hid (IsMod w r ad c b p e) := h
  have h0 := h.c0
  have h1 := h.c1
  have h2 := h.c2
  have f2 := h.frozen 2
  have hp := h.2.2.1
  have hl := h.2.2.2.1
  clear h
  by_cases he : e = 0
  · subst he
    by_cases hn : n < 0
    · have HE : Hid (rdRaw b p 0 n = ([], p, 11)) := by unfold rdRaw; rw [Hid, if_neg (by simp), if_pos hn]
      have HW' : Hid (Mods w r ad c b p 11 (w.setCell ⟨r, 2, none⟩ (.int .i64 11))) := ⟨HR.out.setErr 11, grown_setCell w ⟨r, 2, none⟩ _⟩
      go_enter Try.func82, Try.ntmps82
      go_wp2
      go_ret
      exact ⟨_, rfl, by rw [HE.out]; exact OwnB.nil _ _, by rw [HE.out]; exact HW'.out⟩
    · obtain ⟨m, rfl⟩ := Int.eq_ofNat_of_zero_le (show 0 ≤ n by omega)
      by_cases hgt : b.length - p < m
      · have hgt' : (b.length : Int) - (p : Int) < (m : Int) := by omega
        have HE : Hid (rdRaw b p 0 (m : Int) = ([], p, 10)) := by unfold rdRaw; rw [Hid, if_neg (by simp), if_neg (by omega), if_pos (by omega)]
        have HW' : Hid (∀ nq, Mods w r ad c b p 10 ((w.setCell ⟨r, 2, none⟩ (.int .i64 10)).drewN nq)) := fun nq => ⟨HR.out.setErr 10, grown_trans' (grown_setCell w ⟨r, 2, none⟩ _) (grown_drewN _ _ _)⟩
        clear hgt
        go_enter Try.func82, Try.ntmps82
        go_wp2
        go_quiet (fail)
        have HF := HW'.out nq
        go_wp2
        go_ret
        exact ⟨_, rfl, by rw [HE.out]; exact OwnB.nil _ _, by rw [HE.out]; exact HF⟩
      · have hgt' : ¬ (b.length : Int) - (p : Int) < (m : Int) := by omega
        have HE : Hid (rdRaw b p 0 (m : Int) = ((b.drop p).take m, p + m, 0)) := by unfold rdRaw; rw [Hid, if_neg (by simp), if_neg (by omega), if_neg (by omega)]; rfl
        have hpm : p + m ≤ b.length := by omega
        have hrl : r < w.heap.size := HR.out.lt
        have HGL : Hid (∀ x, b ≠ [] → ad = some x → x.block < w.heap.size) := fun x h0 h1 => HR.out.2.1.lt x h0 h1
        clear hgt
        go_enter Try.func82, Try.ntmps82
        go_wp2
        go_quiet (fail)
        have HR0 : Hid (IsMod (w.drewN nq) r ad c b p 0) := HR.out
        have HG0 : Hid (w.grownBy (w.drewN nq) (some r)) := grown_drewN _ _ _
        generalize w.drewN nq = w0 at *
        clear h0 h1 h2 f2
        go_wp2
        go_loopw [5, 6] (fun x y wr => ∃ (i : Nat) (v : Value), i ≤ m ∧ x = v ∧ y = .int .i64 (i : Int) ∧ Hid (OwnB wr w.heap.size v ((b.drop p).take i)) ∧ Hid (IsMod wr r ad c b p 0) ∧ Hid (w.grownBy wr (some r))) (fun _ y _ => m - (intOf y).toNat)
        case atStart => exact ⟨0, _, Nat.zero_le _, rfl, rfl, OwnB.nil _ _, HR0, HG0⟩
        case round =>
          clear HR0 HG0
          obtain ⟨i, v, hi, hxv, rfl, HO, HM, HG⟩ := hrel
          have hxv' := hxv.symm
          subst hxv'
          have k0 := HM.out.c0
          have k1 := HM.out.c1
          have HVN : Hid (∀ k, v.ownBlock = some k → w.heap.size ≤ k) := fun k hk => (HO.out.2.lt k hk).1
          by_cases hlt : i < m
          · have hlt' : (i : Int) < (m : Int) := by omega
            obtain ⟨z, hz⟩ : ∃ z, b.getD (p + i) 0 = z := ⟨_, rfl⟩
            have hz256 : z < 256 := by rw [← hz]; exact getD_lt HM.out.2.1.1 _
            have hbne : b ≠ [] := by intro e; rw [e] at hpm; simp at hpm; omega
            obtain ⟨g, o, had, hcc⟩ := HM.out.2.1.2.resolve_left hbne
            have kc : wr.cell? ⟨g, o + (p + i), none⟩ = some (.int .u8 (z : Int)) := by rw [← hz]; exact hcc (p + i) (by omega)
            rw [had] at k0
            clear had hcc hbne
            have HTK : Hid ((b.drop p).take (i + 1) = (b.drop p).take i ++ [z]) := by rw [Hid, ← hz]; exact take_more b p i (by omega)
            have hwr : IntKind.i64.wrap ((p : Int) + (i : Int)) = ((p + i : Nat) : Int) := by rw [IntKind.wrap_i64]; omega
            have hwl : w.heap.size ≤ wr.heap.size := HG.out.size
            have hil : ((b.drop p).take i).length = i := by rw [List.length_take, List.length_drop]; omega
            have HIL : Hid (((b.drop p).take i).length = i) := hil
            have hx0 : 0 ≤ (p : Int) + (i : Int) ∧ (p : Int) + (i : Int) < (b.length : Int) := by omega
            have htn : ((p : Int) + (i : Int)).toNat = p + i := by omega
            clear hz hil
            go_wp2
            go_region_law (refine step_append_bytes rfl _ _ rfl w.heap.size _ ((b.drop p).take i) rfl (OwnB.alloc (w := wr.drew) HO.out _) _ _ _ [z] rfl rfl (byte_src wr.drew _ z rfl hz256) (by simp) (by rw [HIL.out]; simp; omega) (by simp; omega) ?_; intro v' w1 hown1 hgrow1 hat1)
            all_goals
              have hg1 := grown_alloc (w := wr.drew) w1 hgrow1
              have HO1 : Hid (OwnB w1 w.heap.size v' ((b.drop p).take (i + 1))) := by rw [HTK.out]; exact hown1
              have HM1 : Hid (IsMod w1 r ad c b p 0) := IsMod.grown (w := wr.drew) HM.out hg1 (fun e => by have := HVN.out _ e; omega) (fun k hk x h0 h1 e => by have := HVN.out _ hk; have := HGL.out x h0 h1; omega)
              have HG1 : Hid (w.grownBy w1 (some r)) := grown_own (wr := wr.drew) (grown_trans' HG.out (grown_drewN wr 1 _)) HVN.out hg1
            all_goals go_wp2
            all_goals go_roundw
            all_goals first | exact ⟨i + 1, v', by omega, rfl, by go_num, HO1, HM1, HG1⟩ | (simp [intOf]; omega)
          · obtain rfl : i = m := by omega
            have f1 := HM.out.frozen 1
            have hwr : IntKind.i64.wrap ((p : Int) + (i : Int)) = ((p + i : Nat) : Int) := by rw [IntKind.wrap_i64]; omega
            have HM1 : Hid (IsMod (wr.setCell ⟨r, 1, none⟩ (.int .i64 ((p : Int) + (i : Int)))) r ad c b (p + i) 0) := HM.out.setAt (p + i) hpm
            have HG1 : Hid (w.grownBy (wr.setCell ⟨r, 1, none⟩ (.int .i64 ((p : Int) + (i : Int)))) (some r)) := grown_trans' HG.out (grown_setCell wr ⟨r, 1, none⟩ _)
            have HO1 : Hid (OwnB (wr.setCell ⟨r, 1, none⟩ (.int .i64 ((p : Int) + (i : Int)))) w.heap.size v ((b.drop p).take i)) := HO.out.grown (grown_setCell wr ⟨r, 1, none⟩ _) (.inr (fun e => by have := HVN.out _ e; simp at this; omega))
            go_wp2
            go_ret
            exact ⟨v, rfl, by rw [HE.out]; exact HO1.out, by rw [HE.out]; exact ⟨HM1.out, HG1.out⟩⟩
  · have he' : (e != 0) = true := by rw [bne_iff_ne]; exact he
    have HE : Hid (rdRaw b p e n = ([], p, e)) := by unfold rdRaw; rw [Hid, if_pos he]
    clear he
    go_enter Try.func82, Try.ntmps82
    go_wp2
    go_ret
    exact ⟨_, rfl, by rw [HE.out]; exact OwnB.nil _ _, by rw [HE.out]; exact ⟨HR.out, World.grownBy.refl _ _⟩⟩


end Go.Proofs.Ytlilaicgmdbhcaa
/-
  HOW THE DOCUMENT READS A BATCH: its Reader's state, and what has been read.
-/
namespace Go.Proofs.Ytlilaicgmdbhcaa.Kk
open Go.RowKit Go.Sort

theorem rdUpto_stuck (b : List Nat) (p : Nat) {e : Int} (most : Nat) (h : e ≠ 0) : rdUpto b p e most = (0, p, e) := by unfold rdUpto; rw [if_pos h]
theorem upR_ok {b : List Nat} {most p n q : Nat} (h : upR b most p = .ok (n, q)) : rdUpto b p 0 most = (n, q, 0) := by
  unfold upR at h
  by_cases h0 : (rdUpto b p 0 most).2.2 = 0
  · rw [if_pos h0] at h
    simp only [Except.ok.injEq, Prod.mk.injEq] at h
    exact Prod.ext h.1 (Prod.ext h.2 h0)
  · rw [if_neg h0] at h; cases h
theorem upR_errD {b : List Nat} {most p q : Nat} {x : Int} (h : upR b most p = .error (q, x)) : rdUpto b p 0 most = (0, q, x) ∧ x ≠ 0 := by
  unfold upR at h
  by_cases h0 : (rdUpto b p 0 most).2.2 = 0
  · rw [if_pos h0] at h; cases h
  · rw [if_neg h0] at h
    simp only [Except.error.injEq, Prod.mk.injEq] at h
    have h1 : (rdUpto b p 0 most).1 = 0 := by
      unfold rdUpto at h0 ⊢
      rw [if_neg (by simp)] at h0 ⊢
      split
      · rfl
      · rename_i hs
        rw [if_neg hs] at h0
        split
        · rfl
        · rename_i hm
          rw [if_neg hm] at h0
          exact absurd rfl h0
    exact ⟨Prod.ext h1 (Prod.ext h.1 h.2), by rw [← h.2]; exact h0⟩
theorem rdUpto_le (b : List Nat) (p : Nat) (e : Int) (most : Nat) : (rdUpto b p e most).1 ≤ most := by
  unfold rdUpto
  split
  · exact Nat.zero_le _
  · split
    · exact Nat.zero_le _
    · split
      · exact Nat.zero_le _
      · rename_i h; exact Nat.le_of_not_lt h
theorem upR_most {b : List Nat} {most p n q : Nat} (h : upR b most p = .ok (n, q)) : n ≤ most := by
  have := rdUpto_le b p 0 most
  rw [upR_ok h] at this
  exact this
/-- THE DOCUMENT'S READER STANDS AT q WITH THE ERROR e: what is read of R is 'rest', or R is that error. -/
def St {α : Type} (R rest : Rd α) (q : Nat) (e : Int) : Prop := (e = 0 ∧ R = rest) ∨ (e ≠ 0 ∧ R = .error (q, e))
theorem St.zero {α : Type} {R rest : Rd α} {q : Nat} (h : St R rest q 0) : R = rest := by
  rcases h with h | h
  · exact h.2
  · exact absurd rfl h.1
theorem St.bad {α : Type} {R rest : Rd α} {q : Nat} {e : Int} (h : St R rest q e) (he : e ≠ 0) : R = .error (q, e) := by
  rcases h with h | h
  · exact absurd h.1 he
  · exact h.2
theorem St.more {α : Type} {R rest rest2 : Rd α} {q : Nat} {e : Int} (h : St R rest q e) (he : e ≠ 0) : St R rest2 q e := .inr ⟨he, h.bad he⟩

/-- one step: a number -/
theorem St.up {α : Type} {R : Rd α} {b : List Nat} {most p : Nat} {f : Nat × Nat → Rd α} (h : R = match upR b most p with | .ok x => f x | .error x => .error x) :
    St R (f ((rdUpto b p 0 most).1, (rdUpto b p 0 most).2.1)) (rdUpto b p 0 most).2.1 (rdUpto b p 0 most).2.2 := by
  cases hu : upR b most p with
  | ok x =>
    obtain ⟨n, q⟩ := x
    have h1 := upR_ok hu
    rw [hu] at h
    rw [h1]
    exact .inl ⟨rfl, h⟩
  | error x =>
    obtain ⟨q, y⟩ := x
    have h1 := upR_errD hu
    rw [hu] at h
    rw [h1.1]
    exact .inr ⟨h1.2, h⟩
/-- one reading behind the other -/
theorem St.bind {α β : Type} {R : Rd α} {S : Rd β} {g : Rd β → Rd α} (hg : ∀ x, g (.error x) = .error x) {q q2 : Nat} {e e2 : Int} {y : β} (h : St R (g S) q e) (h2 : St (if e = 0 then S else .error (q, e)) (.ok (y, q2)) q2 e2) : St R (g (.ok (y, q2))) q2 e2 := by
  by_cases he : e = 0
  · subst he
    rw [if_pos rfl] at h2
    rw [h.zero]
    rcases h2 with ⟨h3, h4⟩ | ⟨h3, h4⟩
    · exact .inl ⟨h3, by rw [h4]⟩
    · exact .inr ⟨h3, by rw [h4, hg]⟩
  · rw [if_neg he] at h2
    rcases h2 with ⟨_, h4⟩ | ⟨h3, h4⟩
    · cases h4
    · exact .inr ⟨h3, by rw [h.bad he]; simp only [Except.error.injEq] at h4 ⊢; exact h4⟩
/-- from any state -/
theorem St.upE {α : Type} {S : Rd α} {b : List Nat} {most p : Nat} (e : Int) {f : Nat × Nat → Rd α} (h : S = match upR b most p with | .ok x => f x | .error x => .error x) :
    St (if e = 0 then S else .error (p, e)) (f ((rdUpto b p e most).1, (rdUpto b p e most).2.1)) (rdUpto b p e most).2.1 (rdUpto b p e most).2.2 := by
  by_cases he : e = 0
  · subst he
    rw [if_pos rfl]
    exact St.up h
  · rw [if_neg he, rdUpto_stuck b p most he]
    exact .inr ⟨he, rfl⟩
theorem rdRaw10 (b : List Nat) (p : Nat) (hp : p ≤ b.length) : rdRaw b p 0 10 = if p + 10 ≤ b.length then ((b.drop p).take 10, p + 10, 0) else ([], p, 10) := by
  unfold rdRaw
  rw [if_neg (by simp), if_neg (by omega)]
  by_cases h : p + 10 ≤ b.length
  · rw [if_neg (by omega), if_pos h]; rfl
  · rw [if_pos (by omega), if_neg h]
/-- the keys' loop -/
theorem keysR_short {b : List Nat} {n p : Nat} {L : List K} (h : ¬ p + 10 ≤ b.length) : keysR b (n + 1) L p = .error (p, 10) := by
  show (match keyR b p with | .error x => _ | .ok (k, q) => _) = _
  unfold keyR
  rw [if_neg h]
theorem keysR_next {b : List Nat} {n p : Nat} {L : List K} (h : p + 10 ≤ b.length) : keysR b (n + 1) L p = if L ≠ [] ∧ lt (kd L (L.length - 1)) (fromK ((b.drop p).take 10)) = false then .error (p, 65) else keysR b n (L ++ [fromK ((b.drop p).take 10)]) (p + 10) := by
  show (match keyR b p with | .error x => _ | .ok (k, q) => _) = _
  unfold keyR
  rw [if_pos h]
theorem keysR_len {b : List Nat} : ∀ {n p : Nat} {L M : List K} {q : Nat}, keysR b n L p = .ok (M, q) → M.length = L.length + n
  | 0, p, L, M, q, h => by
    simp only [keysR, Except.ok.injEq, Prod.mk.injEq] at h
    rw [h.1]; rfl
  | n + 1, p, L, M, q, h => by
    by_cases h1 : p + 10 ≤ b.length
    · rw [keysR_next h1] at h
      split at h
      · cases h
      · have := keysR_len h
        rw [List.length_append, List.length_singleton] at this
        omega
    · rw [keysR_short h1] at h; cases h
theorem argsR_step {b : List Nat} {n p : Nat} {A : List Int} : argsR b (n + 1) A p = match upR b 18446744073709551615 p with | .ok x => argsR b n (A ++ [unfold x.1]) x.2 | .error x => .error x := by
  show (match intR b p with | .ok (x, q) => _ | .error x => _) = _
  unfold intR
  cases upR b 18446744073709551615 p with
  | ok x => rfl
  | error x => rfl
theorem setR_def (b : List Nat) (most p : Nat) : setR b most p = match upR b most p with | .ok x => keysR b x.1 [] x.2 | .error x => .error x := by
  unfold setR
  cases upR b most p <;> rfl
theorem argR_def (b : List Nat) (p : Nat) : argR b p = match upR b 16 p with | .ok x => argsR b x.1 [] x.2 | .error x => .error x := by
  unfold argR
  cases upR b 16 p <;> rfl
/-- what a transaction's reading is, part by part -/
def tx1 (b : List Nat) (n : Nat) (R : Rd (List Int)) : Rd Tp := match R with
  | .error x => .error x
  | .ok (A, p2) => match setR b 16 p2 with
    | .error x => .error x
    | .ok (R, p3) => match setR b 16 p3 with
      | .error x => .error x
      | .ok (V, p4) => .ok (⟨n, A, R, V⟩, p4)
def tx2 (b : List Nat) (n : Nat) (A : List Int) (R : Rd (List K)) : Rd Tp := match R with
  | .error x => .error x
  | .ok (R, p3) => match setR b 16 p3 with
      | .error x => .error x
      | .ok (V, p4) => .ok (⟨n, A, R, V⟩, p4)
def tx3 (n : Nat) (A : List Int) (L : List K) (R : Rd (List K)) : Rd Tp := match R with
  | .error x => .error x
  | .ok (V, p4) => .ok (⟨n, A, L, V⟩, p4)
theorem txR_def (b : List Nat) (p : Nat) : txR b p = match upR b 63 p with | .ok x => tx1 b x.1 (argR b x.2) | .error x => .error x := by
  unfold txR tx1
  cases upR b 63 p with
  | ok x => rfl
  | error x => rfl
theorem tx1_ok (b : List Nat) (n : Nat) (A : List Int) (q : Nat) : tx1 b n (.ok (A, q)) = tx2 b n A (setR b 16 q) := rfl
theorem tx1_err (b : List Nat) (n : Nat) (x : Nat × Int) : tx1 b n (.error x) = .error x := rfl
theorem tx2_ok (b : List Nat) (n : Nat) (A : List Int) (L : List K) (q : Nat) : tx2 b n A (.ok (L, q)) = tx3 n A L (setR b 16 q) := rfl
theorem tx2_err (b : List Nat) (n : Nat) (A : List Int) (x : Nat × Int) : tx2 b n A (.error x) = .error x := rfl
theorem tx3_ok (n : Nat) (A : List Int) (L V : List K) (q : Nat) : tx3 n A L (.ok (V, q)) = .ok (⟨n, A, L, V⟩, q) := rfl
theorem tx3_err (n : Nat) (A : List Int) (L : List K) (x : Nat × Int) : tx3 n A L (.error x) = .error x := rfl
theorem batR_def (b : List Nat) (p : Nat) : batR b p = match upR b 64 p with | .ok x => txsR b x.1 [] x.2 | .error x => .error x := by
  unfold batR
  cases upR b 64 p <;> rfl
theorem txsR_step {b : List Nat} {n p : Nat} {T : List Tp} : txsR b (n + 1) T p = match txR b p with | .ok x => txsR b n (T ++ [x.1]) x.2 | .error x => .error x := by
  show (match txR b p with | .ok (x, q) => _ | .error x => _) = _
  cases txR b p <;> rfl
end Go.Proofs.Ytlilaicgmdbhcaa.Kk
/-
  THE WALKS OF codec.Reader's METHODS: Bytes, End; codec.Read.
-/
namespace Go.Proofs.Ytlilaicgmdbhcaa
open Go.RowKit

def rdBytes (b : List Nat) (p : Nat) (e : Int) (most : Int) : List Nat × Nat × Int :=
  if e ≠ 0 then ([], p, e) else if (scan (b.drop p)).2.2 ≠ 0 then ([], p, (((scan (b.drop p)).2.2 : Nat) : Int)) else if most < 0 ∨ most < (((scan (b.drop p)).1 : Nat) : Int) then ([], p, 12)
  else if b.length - p - (scan (b.drop p)).2.1 < (scan (b.drop p)).1 then ([], p, 10) else rdRaw b (p + (scan (b.drop p)).2.1) 0 (((scan (b.drop p)).1 : Nat) : Int)


end Go.Proofs.Ytlilaicgmdbhcaa
