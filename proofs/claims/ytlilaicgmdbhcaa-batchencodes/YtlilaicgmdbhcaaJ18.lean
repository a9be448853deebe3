import Derived.Test.YtlilaicgmdbhcaaJ14
import Derived.Test.YtlilaicgmdbhcaaJ15
import Derived.Test.YtlilaicgmdbhcaaJ16
import Derived.Test.YtlilaicgmdbhcaaJ17
/-
  THE WALKS OF THE DOCUMENT's count, set, Encode.
-/
namespace Go.Proofs.Ytlilaicgmdbhcaa.Kk
open Go.RowKit Go.Sort

theorem count_any (w : World) (n : Nat) (hn : n ≤ 140737488355328) :
    Calls Try.prog 33 #[.int .i64 (n : Int)] w fun e w' => ∃ v, e = .returned v ∧ OwnB w' w.heap.size v (uint 10 n) ∧ Below w.heap.size w w' := by
  go_enter Try.func33, Try.ntmps33
  go_wp2_with fail
  refine (refUint_any w n (by omega)).mono ?_
  rintro e w1 ⟨v, rfl, ho, hb⟩
  go_wp2
  go_ret
  exact ⟨v, rfl, ho, hb⟩
/-- bytes of the call's own, grown -/
structure OE (w W : World) (v : Value) (L : List Nat) : Prop where
  own : OwnB W w.heap.size v L
  bel : Below w.heap.size w W
theorem OE.kept {w W W' : World} {v : Value} {L : List Nat} (h : OE w W v L) (hb : Below W.heap.size W W') : OE w W' v L := ⟨h.own.kept hb, h.bel.trans (hb.mono h.bel.size)⟩
theorem OE.put {w W W' : World} {v v' : Value} {L L' : List Nat} (h : OE w W v L) (ho : OwnB W' w.heap.size v' L') (hg : W.grownBy W' v.ownBlock) : OE w W' v' L' :=
  ⟨ho, h.bel.trans (grown_below hg (fun q hq => (h.own.2.lt q hq).1) h.bel.size)⟩
theorem uint_len (f n : Nat) : (uint f n).length ≤ f + 1 := by
  induction f generalizing n with
  | zero => simp [uint]
  | succ f ih =>
    unfold uint
    split
    · have := ih (n / 128)
      simp
      omega
    · simp
theorem take_flat {α β : Type} (f : α → List β) (L : List α) (k : Nat) (x : α) (h : L[k]? = some x) : (L.take (k + 1)).flatMap f = (L.take k).flatMap f ++ f x := by
  obtain ⟨h1, h2⟩ := List.getElem?_eq_some_iff.1 h
  rw [List.take_succ_eq_append_getElem h1, h2]
  simp

set_option maxRecDepth 100000 in
set_option maxHeartbeats 1000000 in
theorem refSet_any (w : World) (ao : Option Addr) (n cap : Nat) (L : List K) (h : KeysAt w ao L) (hn : n = L.length) (hm : n ≤ 16) (hk : ∀ k ∈ L, isKey k = true ∧ In64 k.2) :
    Calls Try.prog 36 #[.slice ao n cap] w fun e w' => ∃ v, e = .returned v ∧ OwnB w' w.heap.size v (setN L) ∧ Below w.heap.size w w' := by
  have HK : Hid (∀ W, Below w.heap.size w W → KeysAt W ao L) := fun W hW => h.kept hW
  have HN : Hid (n = L.length ∧ ∀ k ∈ L, isKey k = true ∧ In64 k.2) := ⟨hn, hk⟩
  clear h hn hk
  go_enter Try.func36, Try.ntmps36
  go_wp2_with fail
  refine (count_any w n (by omega)).mono ?_
  rintro e w1 ⟨v1, rfl, ho1, hb1⟩
  obtain ⟨a1, c1, rfl, _, _, _⟩ := ho1.slice
  have HE1 : Hid (OE w w1 (.slice a1 (uint 10 n).length c1) (uint 10 n ++ (L.take 0).flatMap keyBytes)) := ⟨by simpa using ho1, hb1⟩
  have hl1 := uint_len 10 n
  clear ho1 hb1
  generalize (uint 10 n).length = l1 at *
  go_wp2_with fail
  go_loopw [3, 4] (fun v x wr => ∃ k : Nat, k ≤ n ∧ x = .int .i64 (k : Int) ∧ ∃ av lv cv, v = .slice av lv cv ∧ Hid (OE w wr (.slice av lv cv) (uint 10 n ++ (L.take k).flatMap keyBytes))) (fun _ x _ => n - (intOf x).toNat)
  case atStart => exact ⟨0, Nat.zero_le _, rfl, a1, l1, c1, rfl, HE1⟩
  case round =>
    clear HE1
    obtain ⟨k, hk, rfl, av, lv, cv, rfl, HE⟩ := hrel
    by_cases hlt : k < n
    · have hkl : k < L.length := by have := HN.out.1; omega
      obtain ⟨b, off, hao, e1, e2⟩ := (HK.out wr HE.out.bel).get k hkl
      have HKk := HN.out.2 _ (kd_mem hkl)
      have HTk : Hid (uint 10 n ++ (L.take (k + 1)).flatMap keyBytes = (uint 10 n ++ (L.take k).flatMap keyBytes) ++ keyBytes (kd L k)) := by
        rw [Hid, take_flat keyBytes L k (kd L k) (kd_get hkl), List.append_assoc]
      have HLen : Hid ((uint 10 n ++ (L.take k).flatMap keyBytes).length ≤ 11 + 10 * k) := by
        have h1 := uint_len 10 n
        have h2 : ((L.take k).flatMap keyBytes).length = 10 * (L.take k).length := by
          generalize L.take k = M
          induction M with
          | nil => rfl
          | cons x M ih => simp only [List.flatMap_cons, List.length_append, List.length_cons, ih, keyBytes_length]; omega
        rw [Hid, List.length_append, h2, List.length_take]
        have : min k L.length ≤ k := Nat.min_le_left _ _
        omega
      generalize kd L k = z at *
      obtain ⟨t, r⟩ := z
      obtain ⟨hkey, hr64⟩ := HKk
      obtain ⟨t0, t1⟩ := (isKey_iff _ _).1 hkey
      obtain ⟨T, rfl⟩ := Int.eq_ofNat_of_zero_le t0
      subst hao
      simp only at e1 e2 hr64
      go_wp2_with fail
      refine (refBytes_key wr T r (by omega) hr64).mono ?_
      rintro e w2 ⟨v2, rfl, ho2, hb2⟩
      have HE2 : Hid (OE w w2 (.slice av lv cv) (uint 10 n ++ (L.take k).flatMap keyBytes)) := HE.out.kept hb2
      obtain ⟨a2, c2, rfl, hy2, hn2, _⟩ := ho2.slice
      have HY2 : Hid (BytesAt w2 a2 (keyBytes ((T : Int), r)) ∧ (a2 = none → c2 = 0)) := ⟨hy2, hn2⟩
      have hkl2 := keyBytes_length ((T : Int), r)
      rw [hkl2]
      clear ho2 hb2 HE e1 e2 hy2 hn2
      go_wp2_with (
        at_builtin
        refine wpList_append_bytes rfl _ _ rfl w.heap.size (.slice av lv cv) _ rfl HE2.out.own a2 10 c2 (keyBytes ((T : Int), r)) rfl hkl2.symm HY2.out.1 HY2.out.2 (by have := HLen.out; rw [hkl2]; omega) HE2.out.bel.size ?_
        intro v3 w3 ho3 hg3
        obtain ⟨a3, c3, e3, _, _, _⟩ := ho3.slice
        have HE3 : Hid (OE w w3 v3 (uint 10 n ++ (L.take (k + 1)).flatMap keyBytes)) := (by rw [HTk.out]; exact HE2.out.put ho3 hg3)
        generalize ((uint 10 n ++ (L.take k).flatMap keyBytes) ++ keyBytes ((T : Int), r)).length = l3 at e3
        subst e3
        clear ho3 hg3)
      exact ⟨⟨k + 1, by omega, by go_num, a3, l3, c3, rfl, HE3⟩, by simp [intOf]; omega⟩
    · obtain rfl : k = n := by omega
      have HF : Hid (OE w wr (.slice av lv cv) (setN L)) := by
        have h1 := HE.out
        have h2 : L.take k = L := List.take_of_length_le (by have := HN.out.1; omega)
        rw [h2] at h1
        unfold setN
        rw [← HN.out.1]
        exact h1
      clear HE
      go_wp2
      go_ret
      exact ⟨_, rfl, HF.out.own, HF.out.bel⟩
theorem setN_len (L : List K) : (setN L).length ≤ 11 + 10 * L.length := by
  have h1 := uint_len 10 L.length
  have h2 : (L.flatMap keyBytes).length = 10 * L.length := by
    induction L with
    | nil => rfl
    | cons x M ih => simp only [List.flatMap_cons, List.length_append, List.length_cons, ih (uint_len 10 M.length), keyBytes_length]; omega
  unfold setN
  rw [List.length_append, h2]
  omega
theorem ints_len (A : List Int) : (A.flatMap fun x => uint 10 (fold x)).length ≤ 11 * A.length := by
  induction A with
  | nil => simp
  | cons x M ih =>
    have := uint_len 10 (fold x)
    simp only [List.flatMap_cons, List.length_append, List.length_cons]
    omega
theorem txN_len {t : Tp} (h : WF t) : (txN t).length ≤ 1000 := by
  have h1 := uint_len 10 t.proc.toNat
  have h2 := uint_len 10 t.args.length
  have h3 := ints_len t.args
  have h4 := setN_len t.reads
  have h5 := setN_len t.writes
  have a := h.a; have r := h.r; have w := h.w
  simp only [txN, argsN, List.length_append]
  omega
theorem txs_len {Ts : List Tp} (h : ∀ t ∈ Ts, WF t) : (Ts.flatMap txN).length ≤ 1000 * Ts.length := by
  induction Ts with
  | nil => simp
  | cons t M ih =>
    have h1 := txN_len (h t (by simp))
    have h2 := ih (fun x hx => h x (by simp [hx]))
    simp only [List.flatMap_cons, List.length_append, List.length_cons]
    omega
/-- what the document's Encode answers -/
def REncPost (w : World) (Ts : List Tp) (e : Ending) (w' : World) : Prop := Below w.heap.size w w' ∧
  (((eachN formN Ts).2 ≠ 0 ∧ e = .returned (.tuple #[.slice none 0 0, .int .i64 (eachN formN Ts).2])) ∨
  ((eachN formN Ts).2 = 0 ∧ ∃ v, e = .returned (.tuple #[v, .int .i64 0]) ∧ OwnB w' w.heap.size v (batN Ts)))
/-- an append of what a call gave -/
theorem wpL_bytes {w W : World} {ops : Array Oper} {rest : List Oper} {o : Oper} {a : Act} {Q : Exit → Act → World → Prop} (hgd : o.guard = none) (s x : Operand)
    (ho : o.op = .call { callee := .builtin .append, args := #[s, x], argTypes := #[25, 25] }) (v u : Value) (L zs : List Nat) (hs : a.eval s = v) (hx : a.eval x = u) (h : OE w W v L) {base : Nat} (hu : OwnB W base u zs) (hl : L.length + zs.length ≤ 1000000)
    (hk : ∀ av lv cv w', OE w w' (.slice av lv cv) (L ++ zs) → wpList Try.prog ops Q rest (a.put o.dst (.slice av lv cv)) w') : wpList Try.prog ops Q (o :: rest) a W := by
  obtain ⟨a2, c2, rfl, hy, hn, _⟩ := hu.slice
  refine wpList_append_bytes hgd s x ho w.heap.size v L hs h.own a2 zs.length c2 zs hx rfl hy hn (by omega) h.bel.size ?_
  intro v' w' ho' hg'
  have h3 := h.put ho' hg'
  obtain ⟨a3, c3, e3, _, _, _⟩ := ho'.slice
  subst e3
  exact hk _ _ _ _ h3

set_option maxRecDepth 100000 in
set_option maxHeartbeats 4000000 in
theorem refEnc_any (w : World) (ao : Option Addr) (n cap : Nat) (Bs : List Bx) (h : BatAt w ao Bs) (hn : n = Bs.length) (hm : n ≤ 140737488355328) :
    Calls Try.prog 9 #[.slice ao n cap] w fun e w' => REncPost w (Bs.map Bx.t) e w' := by
  have HB : Hid (∀ W, Below w.heap.size w W → BatAt W ao Bs) := fun W hW => h.kept hW
  have HN : Hid (n = Bs.length) := hn
  clear h hn
  by_cases h64 : 64 < n
  · have HF : Hid (REncPost w (Bs.map Bx.t) (.returned (.tuple #[.slice none 0 0, .int .i64 60])) w) := by
      have h1 : eachN formN (Bs.map Bx.t) = (0, 60) := eachN_big (by rw [List.length_map, ← HN.out]; exact h64)
      exact ⟨Below.refl _ _, .inl ⟨by rw [h1]; decide, by rw [h1]⟩⟩
    have h64' : (64 : Int) < (n : Int) := by omega
    go_enter Try.func9, Try.ntmps9
    go_wp2
    go_ret2
    exact HF.out
  have h64' : ¬ (64 : Int) < (n : Int) := by omega
  go_enter Try.func9, Try.ntmps9
  go_wp2_with fail
  refine (count_any w n (by omega)).mono ?_
  rintro e w1 ⟨v1, rfl, ho1, hb1⟩
  obtain ⟨a1, c1, rfl, _, _, _⟩ := ho1.slice
  have HE1 : Hid (OE w w1 (.slice a1 (uint 10 n).length c1) (uint 10 n ++ ((Bs.map Bx.t).take 0).flatMap txN)) := ⟨by simpa using ho1, hb1⟩
  clear ho1 hb1
  generalize (uint 10 n).length = l1 at *
  go_wp2_with fail
  go_loopw [4, 5] (fun v x wr => ∃ k : Nat, k ≤ n ∧ x = .int .i64 (k : Int) ∧ (∃ av lv cv, v = .slice av lv cv ∧ Hid (OE w wr (.slice av lv cv) (uint 10 n ++ ((Bs.map Bx.t).take k).flatMap txN))) ∧ Hid (∀ i, i < k → formN (td (Bs.map Bx.t) i) = 0)) (fun _ x _ => n - (intOf x).toNat)
  case atStart => exact ⟨0, Nat.zero_le _, rfl, ⟨a1, l1, c1, rfl, HE1⟩, fun i hi => absurd hi (by omega)⟩
  case round =>
    clear HE1
    obtain ⟨k, hk, rfl, ⟨av, lv, cv, rfl, HE⟩, HZ⟩ := hrel
    by_cases hlt : k < n
    · have hkl : k < Bs.length := by have := HN.out; omega
      have HO : Hid (∀ W, Below w.heap.size w W → BxOK W (bd Bs k)) := fun W hW => (HB.out W hW).lst k hkl
      have HCell : Hid (∀ W, Below w.heap.size w W → ∃ b off, ao = some ⟨b, off, none⟩ ∧ W.cell? ⟨b, off + k * 4, none⟩ = some (.int .i64 (bd Bs k).t.proc) ∧ W.cell? ⟨b, off + k * 4 + 1, none⟩ = some (.slice (bd Bs k).aA (bd Bs k).t.args.length (bd Bs k).cA) ∧ W.cell? ⟨b, off + k * 4 + 2, none⟩ = some (.slice (bd Bs k).aR (bd Bs k).t.reads.length (bd Bs k).cR) ∧ W.cell? ⟨b, off + k * 4 + 3, none⟩ = some (.slice (bd Bs k).aW (bd Bs k).t.writes.length (bd Bs k).cW)) := fun W hW => (HB.out W hW).at_.get k hkl
      obtain ⟨b, off, hao, _⟩ := HCell.out wr HE.out.bel
      have HCl : Hid (∀ W, Below w.heap.size w W → W.cell? ⟨b, off + k * 4, none⟩ = some (.int .i64 (bd Bs k).t.proc) ∧ W.cell? ⟨b, off + k * 4 + 1, none⟩ = some (.slice (bd Bs k).aA (bd Bs k).t.args.length (bd Bs k).cA) ∧ W.cell? ⟨b, off + k * 4 + 2, none⟩ = some (.slice (bd Bs k).aR (bd Bs k).t.reads.length (bd Bs k).cR) ∧ W.cell? ⟨b, off + k * 4 + 3, none⟩ = some (.slice (bd Bs k).aW (bd Bs k).t.writes.length (bd Bs k).cW)) := fun W hW => by
        obtain ⟨b', off', e, c⟩ := HCell.out W hW
        rw [hao] at e
        simp only [Option.some.injEq, Addr.mk.injEq, and_true] at e
        obtain ⟨rfl, rfl⟩ := e
        exact c
      have HTd : Hid (td (Bs.map Bx.t) k = (bd Bs k).t) := td_map hkl
      have HGet : Hid ((Bs.map Bx.t)[k]? = some (bd Bs k).t) := by rw [Hid, List.getElem?_map, bd_get hkl]; rfl
      have HLen0 : Hid (WF (bd Bs k).t → (uint 10 n ++ ((Bs.map Bx.t).take k).flatMap txN).length ≤ 70000) := fun _ => by
        have h1 := uint_len 10 n
        have h2 : (((Bs.map Bx.t).take k).flatMap txN).length ≤ 1000 * ((Bs.map Bx.t).take k).length := txs_len (fun t ht => by
          obtain ⟨i, hi, rfl⟩ := List.mem_iff_getElem.1 ht
          have hi' : i < k := by simp at hi; omega
          have h3 := HZ.out i hi'
          have hil : i < (Bs.map Bx.t).length := by simp at hi ⊢; omega
          rw [td, List.getD_eq_getElem?_getD, List.getElem?_eq_getElem hil] at h3
          rw [List.getElem_take]
          exact wf_of h3)
        rw [List.length_append]
        have h4 : ((Bs.map Bx.t).take k).length ≤ k := by rw [List.length_take]; exact Nat.min_le_left _ _
        omega
      have HStop : Hid (formN (bd Bs k).t ≠ 0 → eachN formN (Bs.map Bx.t) = (k, formN (bd Bs k).t)) := fun h => by
        have := eachN_stop (f := formN) (Ts := Bs.map Bx.t) (k := k) (by rw [List.length_map, ← HN.out]; omega) HZ.out (by rw [HTd.out]; exact h) (by rw [List.length_map]; exact hkl)
        rw [HTd.out] at this
        exact this
      have HTk : Hid (((Bs.map Bx.t).take (k + 1)).flatMap txN = ((Bs.map Bx.t).take k).flatMap txN ++ txN (bd Bs k).t) := take_flat txN _ k _ HGet.out
      have HZ2 : Hid (formN (bd Bs k).t = 0 → ∀ i, i < k + 1 → formN (td (Bs.map Bx.t) i) = 0) := fun h i hi => by
        by_cases e : i = k
        · subst e; rw [HTd.out]; exact h
        · exact HZ.out i (by omega)
      subst hao
      clear HCell HTd HGet hkl HZ
      generalize bd Bs k = x at *
      obtain ⟨⟨proc, args, reads, writes⟩, aA, cA, aR, cR, aW, cW⟩ := x
      simp only at HCl HStop HTk HZ2 HLen0
      obtain ⟨k0, k1, k2, k3⟩ := HCl.out wr HE.out.bel
      have HFm := refFormed_any wr _ (HO.out wr HE.out.bel)
      simp only [bxv] at HFm
      go_wp2_with fail
      refine HFm.mono ?_
      rintro e w2 ⟨rfl, hg2⟩
      have HE2 : Hid (OE w w2 (.slice av lv cv) (uint 10 n ++ ((Bs.map Bx.t).take k).flatMap txN)) := HE.out.kept hg2.below
      clear hg2 HFm HE k0 k1 k2 k3
      by_cases hf : formN ⟨proc, args, reads, writes⟩ = 0
      · have HWF : Hid (WF ⟨proc, args, reads, writes⟩) := wf_of hf
        have hl0 := HLen0.out HWF.out
        have HZ3 := HZ2.out hf
        have HZn : Hid (∀ i, i < k + 1 → formN (td (Bs.map Bx.t) i) = 0) := HZ3
        rw [hf]
        clear hf HStop HZ2 HZ3 HLen0
        obtain ⟨P, hP⟩ := Int.eq_ofNat_of_zero_le HWF.out.p0
        simp only at hP
        subst hP
        have hP64 : P < 64 := by have := HWF.out.p1; simp only at this; omega
        have ha16 : args.length ≤ 16 := HWF.out.a
        have hr16 : reads.length ≤ 16 := HWF.out.r
        have hw16 : writes.length ≤ 16 := HWF.out.w
        obtain ⟨S0, hS0⟩ : ∃ S0, S0 = uint 10 n ++ ((Bs.map Bx.t).take k).flatMap txN := ⟨_, rfl⟩
        rw [← hS0] at HE2 hl0
        have HS0 : Hid (S0 = uint 10 n ++ ((Bs.map Bx.t).take k).flatMap txN) := hS0
        clear hS0
        obtain ⟨k0, k1, k2, k3⟩ := HCl.out w2 HE2.out.bel
        go_wp2_with fail
        refine (count_any w2 P (by omega)).mono ?_
        rintro e w3 ⟨v3, rfl, ho3, hb3⟩
        have HE3 : Hid (OE w w3 (.slice av lv cv) S0) := HE2.out.kept hb3
        have HO3 : Hid (OwnB w3 w2.heap.size v3 (uint 10 P)) := ho3
        have u1 := uint_len 10 P
        obtain ⟨a3, c3, e3, _, _, _⟩ := ho3.slice
        generalize (uint 10 P).length = l3 at e3 u1
        subst e3
        clear ho3 hb3 HE2 k0 k1 k2 k3
        go_wp2_with (
          at_builtin
          refine wpL_bytes rfl _ _ rfl (.slice av lv cv) (.slice a3 l3 c3) S0 (uint 10 P) rfl rfl HE3.out HO3.out (by have := uint_len 10 P; omega) ?_
          intro b4 l4 c4 w4 he4
          have HE4 : Hid (OE w w4 (.slice b4 l4 c4) (S0 ++ uint 10 P)) := he4
          obtain ⟨k0, k1, k2, k3⟩ := HCl.out w4 he4.bel
          clear he4)
        clear HE3 HO3
        have hl1 : (S0 ++ uint 10 P).length ≤ 70011 := by have := uint_len 10 P; rw [List.length_append]; omega
        refine (count_any w4 args.length (by omega)).mono ?_
        rintro e w5 ⟨v5, rfl, ho5, hb5⟩
        have HE5 : Hid (OE w w5 (.slice b4 l4 c4) (S0 ++ uint 10 P)) := HE4.out.kept hb5
        have HO5 : Hid (OwnB w5 w4.heap.size v5 (uint 10 args.length)) := ho5
        obtain ⟨a5, c5, e5, _, _, _⟩ := ho5.slice
        generalize (uint 10 args.length).length = l5 at e5
        subst e5
        clear ho5 hb5 HE4 k0 k1 k2 k3
        go_wp2_with (
          at_builtin
          refine wpL_bytes rfl _ _ rfl (.slice b4 l4 c4) (.slice a5 l5 c5) _ (uint 10 args.length) rfl rfl HE5.out HO5.out (by have := uint_len 10 args.length; omega) ?_
          intro b6 l6 c6 w6 he6
          have HE6 : Hid (OE w w6 (.slice b6 l6 c6) (S0 ++ uint 10 P ++ uint 10 args.length ++ (args.take 0).flatMap fun x => uint 10 (fold x))) := (by rw [List.take_zero, List.flatMap_nil, List.append_nil]; exact he6)
          clear he6)
        clear HE5 HO5
        obtain ⟨na, hna⟩ : ∃ na, na = args.length := ⟨_, rfl⟩
        have HNa : Hid (na = args.length) := hna
        rw [← hna] at ha16 HCl
        clear hna
        go_loopw [4, 7] (fun v x wr => ∃ j : Nat, j ≤ na ∧ x = .int .i64 (j : Int) ∧ ∃ bv lv cv, v = .slice bv lv cv ∧ Hid (OE w wr (.slice bv lv cv) (S0 ++ uint 10 P ++ uint 10 args.length ++ (args.take j).flatMap fun x => uint 10 (fold x)))) (fun _ x _ => na - (intOf x).toNat)
        case atStart => exact ⟨0, Nat.zero_le _, rfl, b6, l6, c6, rfl, HE6⟩
        case round =>
          clear HE6
          obtain ⟨j, hj, rfl, bv, lw, cw, rfl, HEj⟩ := hrel
          obtain ⟨k0, k1, k2, k3⟩ := HCl.out _ HEj.out.bel
          have hlj : (S0 ++ uint 10 P ++ uint 10 args.length ++ (args.take j).flatMap fun x => uint 10 (fold x)).length ≤ 70200 := by
            have h1 := ints_len (args.take j)
            have h2 : (args.take j).length ≤ j := by rw [List.length_take]; exact Nat.min_le_left _ _
            have h3 := uint_len 10 args.length
            simp only [List.length_append] at hl1 ⊢
            omega
          by_cases hjl : j < na
          · have hja : j < args.length := by have := HNa.out; omega
            obtain ⟨ba, oa, haA, e0⟩ := (HO.out _ HEj.out.bel).args.get j hja
            simp only at haA e0
            have hin := (HO.out _ HEj.out.bel).ain _ (ad_mem hja)
            have HTj : Hid ((args.take (j + 1)).flatMap (fun x => uint 10 (fold x)) = (args.take j).flatMap (fun x => uint 10 (fold x)) ++ uint 10 (fold (ad args j))) := take_flat _ _ j _ (ad_get hja)
            rw [haA] at k1
            clear haA
            generalize ad args j = z at *
            go_wp2_with fail
            refine (refInt_any _ z hin.1 hin.2).mono ?_
            rintro e w7 ⟨v7, rfl, ho7, hb7⟩
            have HE7 : Hid (OE w w7 (.slice bv lw cw) (S0 ++ uint 10 P ++ uint 10 args.length ++ (args.take j).flatMap fun x => uint 10 (fold x))) := HEj.out.kept hb7
            have HO7 : Hid (OwnB w7 _ v7 (uint 10 (fold z))) := ho7
            obtain ⟨a7, c7, e7, _, _, _⟩ := ho7.slice
            generalize (uint 10 (fold z)).length = l7 at e7
            subst e7
            clear ho7 hb7 HEj k0 k1 k2 k3 e0
            go_wp2_with (
              at_builtin
              refine wpL_bytes rfl _ _ rfl (.slice bv lw cw) (.slice a7 l7 c7) _ (uint 10 (fold z)) rfl rfl HE7.out HO7.out (by have := uint_len 10 (fold z); omega) ?_
              intro b8 l8 c8 w8 he8
              have HE8 : Hid (OE w w8 (.slice b8 l8 c8) (S0 ++ uint 10 P ++ uint 10 args.length ++ (args.take (j + 1)).flatMap fun x => uint 10 (fold x))) := (by rw [HTj.out, ← List.append_assoc]; exact he8)
              clear he8)
            go_roundw
            case rel => exact ⟨j + 1, by omega, by go_num, b8, l8, c8, rfl, HE8⟩
            case measure => simp [intOf]; omega
          · obtain rfl : j = na := by omega
            have HEk : Hid (OE w wr (.slice bv lw cw) (S0 ++ uint 10 P ++ argsN args)) := by
              have h1 := HEj.out
              have h2 : args.take j = args := List.take_of_length_le (by have := HNa.out; omega)
              rw [h2] at h1
              unfold argsN
              rw [← List.append_assoc]
              exact h1
            have hlk : (S0 ++ uint 10 P ++ argsN args).length ≤ 70200 := by
              have h2 : args.take j = args := List.take_of_length_le (by have := HNa.out; omega)
              rw [h2] at hlj
              unfold argsN
              rw [← List.append_assoc]
              exact hlj
            clear HEj hlj
            have hoR := (HO.out _ HEk.out.bel).reads
            have HKR : Hid (∀ k ∈ reads, isKey k = true ∧ In64 k.2) := fun k hk => ⟨HWF.out.rr.1 k hk, ((HO.out _ HEk.out.bel).rin k hk).2⟩
            have HKW : Hid (∀ k ∈ writes, isKey k = true ∧ In64 k.2) := fun k hk => ⟨HWF.out.rw.1 k hk, ((HO.out _ HEk.out.bel).win k hk).2⟩
            simp only at hoR
            have HSt := refSet_any _ aR reads.length cR reads hoR rfl hr16 HKR.out
            clear hoR
            go_wp2_with fail
            refine HSt.mono ?_
            clear HSt
            rintro e w9 ⟨v9, rfl, ho9, hb9⟩
            have HE9 : Hid (OE w w9 (.slice bv lw cw) (S0 ++ uint 10 P ++ argsN args)) := HEk.out.kept hb9
            have HO9 : Hid (OwnB w9 _ v9 (setN reads)) := ho9
            obtain ⟨a9, c9, e9, _, _, _⟩ := ho9.slice
            generalize (setN reads).length = l9 at e9
            subst e9
            clear ho9 hb9 HEk k0 k1 k2 k3
            go_wp2_with (
              at_builtin
              refine wpL_bytes rfl _ _ rfl (.slice bv lw cw) (.slice a9 l9 c9) _ (setN reads) rfl rfl HE9.out HO9.out (by have := setN_len reads; omega) ?_
              intro b10 l10 c10 w10 he10
              have HE10 : Hid (OE w w10 (.slice b10 l10 c10) (S0 ++ uint 10 P ++ argsN args ++ setN reads)) := he10
              obtain ⟨k0, k1, k2, k3⟩ := HCl.out w10 he10.bel
              clear he10)
            have hl10 : (S0 ++ uint 10 P ++ argsN args ++ setN reads).length ≤ 70500 := by have := setN_len reads; rw [List.length_append]; omega
            have hoW := (HO.out _ HE10.out.bel).writes
            simp only at hoW
            have HSw := refSet_any _ aW writes.length cW writes hoW rfl hw16 HKW.out
            clear HE9 HO9 hoW
            refine HSw.mono ?_
            clear HSw
            rintro e w11 ⟨v11, rfl, ho11, hb11⟩
            have HE11 : Hid (OE w w11 (.slice b10 l10 c10) (S0 ++ uint 10 P ++ argsN args ++ setN reads)) := HE10.out.kept hb11
            have HO11 : Hid (OwnB w11 _ v11 (setN writes)) := ho11
            obtain ⟨a11, c11, e11, _, _, _⟩ := ho11.slice
            generalize (setN writes).length = l11 at e11
            subst e11
            clear ho11 hb11 HE10 k0 k1 k2 k3
            go_wp2_with (
              at_builtin
              refine wpL_bytes rfl _ _ rfl (.slice b10 l10 c10) (.slice a11 l11 c11) _ (setN writes) rfl rfl HE11.out HO11.out (by have := setN_len writes; omega) ?_
              intro b12 l12 c12 w12 he12
              have HE12 : Hid (OE w w12 (.slice b12 l12 c12) (uint 10 n ++ ((Bs.map Bx.t).take (k + 1)).flatMap txN)) := (by
                rw [HTk.out, ← List.append_assoc, ← HS0.out]
                have e : txN ⟨(P : Int), args, reads, writes⟩ = uint 10 P ++ argsN args ++ setN reads ++ setN writes := rfl
                rw [e]
                have e2 : S0 ++ (uint 10 P ++ argsN args ++ setN reads ++ setN writes) = S0 ++ uint 10 P ++ argsN args ++ setN reads ++ setN writes := (by simp only [List.append_assoc])
                rw [e2]
                exact he12)
              clear he12)
            exact ⟨⟨k + 1, by omega, by go_num, ⟨b12, l12, c12, rfl, HE12⟩, HZn⟩, by simp [intOf]; omega⟩
      · have HF : Hid (REncPost w (Bs.map Bx.t) (.returned (.tuple #[.slice none 0 0, .int .i64 (formN ⟨proc, args, reads, writes⟩)])) w2) := by
          have h1 := HStop.out hf
          exact ⟨HE2.out.bel, .inl ⟨by rw [h1]; exact hf, by rw [h1]⟩⟩
        have hf' : (formN ⟨proc, args, reads, writes⟩ != 0) = true := by simpa using hf
        clear HE2 HStop HZ2 HTk
        generalize formN ⟨proc, args, reads, writes⟩ = ff at *
        go_wp2
        go_ret2
        exact HF.out
    · obtain rfl : k = n := by omega
      have HF : Hid (OE w wr (.slice av lv cv) (batN (Bs.map Bx.t)) ∧ (eachN formN (Bs.map Bx.t)).2 = 0) := by
        have h1 := HE.out
        have hl : (Bs.map Bx.t).length = k := by rw [List.length_map, ← HN.out]
        have h2 : (Bs.map Bx.t).take k = Bs.map Bx.t := List.take_of_length_le (by omega)
        rw [h2] at h1
        refine ⟨?_, by rw [eachN_zero (by omega) (by rw [hl]; exact HZ.out)]⟩
        unfold batN
        rw [hl]
        exact h1
      have HF2 : Hid (REncPost w (Bs.map Bx.t) (.returned (.tuple #[.slice av lv cv, .int .i64 0])) wr) := ⟨HF.out.1.bel, .inr ⟨HF.out.2, _, rfl, HF.out.1.own⟩⟩
      clear HE HF HZ
      go_wp2
      go_ret2
      exact HF2.out
end Go.Proofs.Ytlilaicgmdbhcaa.Kk
