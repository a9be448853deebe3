/-
  THE WALK OF JournalScans.
-/
import Derived.Test.YtcpaonjidioclaaDoorJrSeen
import Derived.Test.YtcpaonjidioclaaDoorJrCopied
import Derived.Test.YtcpaonjidioclaaDoorJrSame
import Derived.Deep.RegionHeld3
namespace Go.Proofs.YtcpaonjidioclaaDoor
open Go.RowKit

theorem run_eqErr (x1 x2 x3 : Int) (w : World) : Sem.run Tryd.prog (binOp .eql 29 (.agg #[.int .i64 x1, .int .i64 x2, .int .i64 x3]) (.agg #[.int .i64 x1, .int .i64 x2, .int .i64 x3])) w = .ok (.bool true) w := by
  have u3 := Tryd.underlying3
  have a3 := Tryd.isAgg3
  have z3 := Tryd.sizeOf3
  have hS : Tryd.prog.underlying 29 = some (.struct (Tryd.prog.fieldsOf 29)) := by kernel_rfl
  have hp : Tryd.prog.stoodInHeld 29 = false := by kernel_rfl
  rw [run_eql_struct, show (10000 : Nat) = 9999 + 1 from rfl, run_equalIn_agg w 9999 29 _ _ hS hp]
  simp only [Program.fieldsOf, Tryd.underlying29]
  go_simp
theorem errV_ex (p : Nat) (code : Int) : ∃ x y z : Int, errV p code = .agg #[.int .i64 x, .int .i64 y, .int .i64 z] := by
  unfold errV
  split
  · exact ⟨_, _, _, rfl⟩
  · exact ⟨_, _, _, rfl⟩
/-- append at a slice of bytes of the call's own, as one equation -/
theorem runJ_append {w : World} (ty : TypeId) (base : Nat) (v : Value) (L : List Nat) (hown : OwnB w base v L)
    (ao : Option Addr) (m c : Nat) (zs : List Nat) (hm : m = zs.length) (hsrc : BytesAt w ao zs) (hnil : ao = none → c = 0) (hlen : L.length + zs.length ≤ 140737488355328) (hbase : base ≤ w.heap.size) :
    ∃ v' w', (Builtin.append_ #[22, 22] ty #[v, .slice ao m c]).run Tryd.prog w = .ok v' w' ∧ OwnB w' base v' (L ++ zs) ∧ w.grownBy w' v.ownBlock ∧ (v'.ownBlock = v.ownBlock ∨ v'.ownBlock = some w.heap.size) := by
  obtain ⟨i0, hi, hz0, hz1, hz2⟩ := info_parts info8
  subst hm
  have hzz : ∀ z ∈ L ++ zs, z < 256 := by
    intro z hz
    rcases List.mem_append.1 hz with h1 | h1
    · exact hown.1 z h1
    · exact hsrc.1 z h1
  cases ao with
  | none =>
    have h0 : zs = [] := by
      obtain ⟨_, h1 | ⟨b, off, h1, _⟩⟩ := hsrc
      · exact h1
      · cases h1
    subst h0
    obtain rfl := hnil rfl
    exact ⟨v, w, run_append_owned_none (P := Tryd.prog) (w := w) base 22 ty 5 i0 1 Tryd.underlying22 hi v L.length (L.map b8) hown.2, by simpa using hown, World.grownBy.refl _ _, .inl rfl⟩
  | some ad =>
    obtain ⟨v', w', hr, h2, h3, _, h5⟩ := run_append_own_at (P := Tryd.prog) w base 22 ty 5 i0 (.int .u8 0) 1 1 Tryd.underlying22 hi hz0 hz1 hz2 rfl (by decide) v L.length (L.map b8) hown.2 ad zs.length c (zs.map b8) (by simp)
      (by
        intro j u hu
        by_cases h0 : zs = []
        · subst h0; simp at hu
        · obtain ⟨ad', e, hc⟩ := bytes_src hsrc h0
          cases e
          exact hc j u hu) (oneCells zs) (by unfold maxLen; omega) (by omega) hbase
    exact ⟨v', w', hr, ⟨hzz, by rw [List.length_append, List.map_append]; exact h2⟩, h3, h5⟩
/-- at a step of a region that draws -/
theorem stepJ_append {w : World} {ops : Array Oper} {o : Oper} {a : Act} {K : Act → World → Prop} {Q : Exit → Act → World → Prop} {E : Prop} (hw : Region.wanted o (yielded ops a.tmps) = true) (s x : Operand)
    (ho : o.op = .call { callee := .builtin .append, args := #[s, x], argTypes := #[22, 22] }) (base : Nat) (v : Value) (L : List Nat) (hs : a.eval s = v) (hown : OwnB w base v L)
    (ao : Option Addr) (m c : Nat) (zs : List Nat) (hx : a.eval x = .slice ao m c) (hm : m = zs.length) (hsrc : BytesAt w ao zs) (hnil : ao = none → c = 0) (hlen : L.length + zs.length ≤ 140737488355328) (hbase : base ≤ w.heap.size)
    (h : ∀ v' w', OwnB w' base v' (L ++ zs) → w.grownBy w' v.ownBlock → (v'.ownBlock = v.ownBlock ∨ v'.ownBlock = some w.heap.size) → K (a.put o.dst v') w') :
    if Region.wanted o (yielded ops a.tmps) = true then Oper.wp Tryd.prog o a w K Q else E := by
  rw [if_pos hw]
  obtain ⟨v', w', hr, h2, h3, h4⟩ := runJ_append o.type base v L hown ao m c zs hm hsrc hnil hlen hbase
  unfold Oper.wp execOp
  simp only [ho, resolve, invoke, builtin, Sem.run_bind, Sem.run_pure, Result.andThen_ok, List.map_toArray, List.map_cons, List.map_nil, hs, hx, hr]
  exact h v' w' h2 h3 h4

/-- a copy with one byte more -/
theorem full_of {w2 : World} {base n : Nat} {v : Value} {zs : List Nat} (hn : n = zs.length) (h : OwnB w2 base v (zs ++ [5])) :
    ∃ g c, v = .slice (some ⟨g, 0, none⟩) (n + 1) c ∧ n + 1 ≤ c ∧ c ≤ maxLen ∧ BytesAt w2 (some ⟨g, 0, none⟩) zs := by
  subst hn
  rcases h.shape with ⟨_, h0⟩ | ⟨g, c2, rfl, hg1, hg2', hc2, hcm2, hbs2⟩
  · simp at h0
  · refine ⟨g, c2, by simp, by simpa using hc2, hcm2, ?_⟩
    have := hbs2.take zs.length
    rw [List.take_left'] at this
    · exact this
    · rfl

set_option maxRecDepth 100000 in
set_option maxHeartbeats 4000000 in
theorem scans_walk (w : World) (ao : Option Addr) (cap n : Nat) (zs : List Nat) (hn : n = zs.length) (h : BytesAt w ao zs) (hm : n ≤ 140737488351232) (hcap : n ≤ cap) (hmax : cap ≤ maxLen) (hnil : ao = none → cap = 0) (ht : TabAt w) :
    Calls Tryd.prog 3 #[.slice ao n cap] w fun e w' => e = .returned (.bool true) ∧ Below w.heap.size w w' := by
  have HN : Hid (n = zs.length) := hn
  have HA : Hid (BytesAt w ao zs) := h
  have HT : Hid (TabAt w) := ht
  have HM : Hid (cap ≤ maxLen) := hmax
  have HC : Hid (ao = none → cap = 0) := hnil
  clear hn h ht hmax hnil
  go_enter Tryd.func3, Tryd.ntmps3
  go_wp2_with fail
  refine (copied17_any w ao cap n zs HN.out HA.out (by omega)).mono ?_
  rintro e w1 ⟨rfl, hr1, hb1, hs1⟩
  have HO1 : Hid (OwnB w1 w.heap.size (.slice (some ⟨w.heap.size, 0, none⟩) n n) zs) := by
    have := OwnB.ofRow hr1 HA.out.1 (by rw [← HN.out]; unfold maxLen; omega) (Nat.le_refl _)
    rw [← HN.out] at this; exact this
  have HB1 : Hid (Below w.heap.size w w1) := hb1
  clear hr1 hb1 hs1
  go_wp2_with (at_builtin; refine wpList_append_bytes rfl _ _ rfl w.heap.size _ zs rfl (HO1.out.alloc _) _ _ _ [5] rfl rfl (byte_src _ _ 5 rfl (by omega)) (by simp) (by have := HN.out; simp; omega) (by have := HB1.out.size; simp; omega) ?_; intro v2 w2 ho2 hg2; obtain ⟨g, c2, hv2, hc2, hcm2, hbs2⟩ := full_of HN.out ho2; subst hv2; have HB2 : Hid (Below w.heap.size w w2) := (HB1.out.alloc HB1.out.size _).grown hg2 (by have := HB1.out.size; simp; omega) (fun k hk => (HO1.out.2.lt k hk).1); have HO2 : Hid (OwnB w2 w.heap.size (.slice (some ⟨g, 0, none⟩) (n + 1) c2) (zs ++ [5])) := ho2; have HF2 : Hid (BytesAt w2 (some ⟨g, 0, none⟩) zs) := hbs2; have HM2 : Hid (c2 ≤ maxLen) := hcm2; have hc2' : (n : Int) ≤ (c2 : Int) := (by omega); clear ho2 hg2 hbs2 hcm2)
  refine (scan_any w2 (some ⟨g, 0, none⟩) c2 n zs HN.out HF2.out hm (by omega) HM2.out (by simp) (HT.out.kept HB2.out)).mono ?_
  rintro e w3 ⟨v3, rfl, he3, hb3⟩
  have HB3 : Hid (Below w.heap.size w w3) := HB2.out.trans (hb3.mono HB2.out.size)
  have HO3 : Hid (OwnB w3 w.heap.size (.slice (some ⟨g, 0, none⟩) (n + 1) c2) (zs ++ [5])) := HO2.out.kept hb3
  have HE3 := hidJ he3
  clear he3 hb3 HF2 HO2 HB2
  go_wp2_with fail
  refine (rscan_any w3 ao cap n zs HN.out (HA.out.kept HB3.out) hm hcap HM.out HC.out).mono ?_
  rintro e w4 ⟨rfl, hb4⟩
  have HB4 : Hid (Below w.heap.size w w4) := HB3.out.trans (hb4.mono HB3.out.size)
  have HO4 : Hid (OwnB w4 w.heap.size (.slice (some ⟨g, 0, none⟩) (n + 1) c2) (zs ++ [5])) := HO3.out.kept hb4
  have HE4 := hidJ (HE3.out.kept hb4)
  clear hb4 HE3 HO3 HB3
  obtain ⟨x, y, z, hxyz⟩ := errV_ex (scanN zs).2.1 (scanN zs).2.2
  rw [hxyz]
  have HV : Hid (errV (scanN zs).2.1 (scanN zs).2.2 = .agg #[.int .i64 x, .int .i64 y, .int .i64 z]) := hxyz
  clear hxyz
  go_wp2_with fail
  have hA5 : Below w4.heap.size w4 (w4.alloc (.cells #[.int .i64 x, .int .i64 y, .int .i64 z] 29)) := (Below.refl _ _).alloc (Nat.le_refl _) _
  have HX5 : Hid (Box3 (w4.alloc (.cells #[.int .i64 x, .int .i64 y, .int .i64 z] 29)) w4.heap.size 29 (.int .i64 x) (.int .i64 y) (.int .i64 z)) := ⟨heap_alloc_new _ _⟩
  have HB5 : Hid (Below w.heap.size w (w4.alloc (.cells #[.int .i64 x, .int .i64 y, .int .i64 z] 29))) := HB4.out.trans (hA5.mono HB4.out.size)
  have HO5 := hidJ (HO4.out.kept hA5)
  have HE5 := hidJ (HE4.out.kept hA5)
  clear hA5 HE4 HO4 HB4
  generalize (w4.alloc (.cells #[.int .i64 x, .int .i64 y, .int .i64 z] 29)) = W5 at *
  have HS5 : Hid (Calls Tryd.prog 7 #[v3] W5.drew fun e w' => e = .returned (.agg #[.int .i64 x, .int .i64 y, .int .i64 z]) ∧ Below W5.heap.size W5 w') := by
    have := seen_scan W5.drew _ _ _ HE5.out
    rw [HV.out] at this
    refine this.mono ?_
    rintro e w' ⟨rfl, hb⟩
    exact ⟨rfl, (show Below W5.heap.size W5 W5.drew from below_drewN (Below.refl _ _) 1).trans hb⟩
  have HCp : Hid (∀ W' B', B' = W'.heap.size → Below W5.heap.size W5 W' → Calls Tryd.prog 4 #[.slice ao n cap] W' fun e w' => e = .returned (.slice (some ⟨B', 0, none⟩) n n) ∧ OwnB w' W5.heap.size (.slice (some ⟨B', 0, none⟩) n n) zs ∧ Below W5.heap.size W5 w' ∧ Below W'.heap.size W' w') := by
    intro W' B' hB' hW'
    subst hB'
    refine (copied17_any W' ao cap n zs HN.out (HA.out.kept (HB5.out.trans (hW'.mono HB5.out.size))) (by omega)).mono ?_
    rintro e w7 ⟨rfl, hr7, hb7, hs7⟩
    have := OwnB.ofRow hr7 HA.out.1 (by rw [← HN.out]; unfold maxLen; omega) hW'.size
    rw [← HN.out] at this
    exact ⟨rfl, this, hW'.trans (hb7.mono hW'.size), hb7⟩
  have HSm : Hid (∀ W' g8 c8, Below W5.heap.size W5 W' → OwnB W' W5.heap.size (.slice (some ⟨g8, 0, none⟩) (n + 1) c8) (zs ++ [5]) → Calls Tryd.prog 8 #[.slice (some ⟨g, 0, none⟩) (n + 1) c2, .slice (some ⟨g8, 0, none⟩) (n + 1) c8] W' fun e w' => e = .returned (.bool true) ∧ Below W5.heap.size W5 w') := by
    intro W' g8 c8 hW' ho
    have hl : n + 1 = (zs ++ [5]).length := by rw [HN.out]; simp
    refine (same17_any W' (some ⟨g, 0, none⟩) (some ⟨g8, 0, none⟩) c2 c8 (n + 1) (n + 1) (zs ++ [5]) (zs ++ [5]) hl hl (HO5.out.bytes.1.kept hW') ho.bytes.1 (by rw [← hl]; unfold maxLen; omega)).mono ?_
    rintro e w9 ⟨rfl, q, rfl⟩
    exact ⟨by simp, below_drewN hW' q⟩
  clear HV HE5
  generalize (scanN zs).1 = m at *
  generalize (scanN zs).2.1 = p at *
  have HE := run_eqErr x y z
  have HBd : Hid (zs.length + [5].length ≤ 140737488355328) := by rw [Hid, ← HN.out]; simp; omega
  have c0 := HX5.out.c0
  have c1 := HX5.out.c1
  have c3 := HX5.out.c2
  have HK : Hid (∀ W', Below W5.heap.size W5 W' → W'.cell? ⟨w4.heap.size, 0, none⟩ = some (.int .i64 x) ∧ W'.cell? ⟨w4.heap.size, 1, none⟩ = some (.int .i64 y) ∧ W'.cell? ⟨w4.heap.size, 2, none⟩ = some (.int .i64 z)) := fun W' h => ⟨(HX5.out.kept h).c0, (HX5.out.kept h).c1, (HX5.out.kept h).c2⟩
  go_region_held3 (fun w' => w'.cell? ⟨w4.heap.size, 0, none⟩ = some (.int .i64 x) ∧ w'.cell? ⟨w4.heap.size, 1, none⟩ = some (.int .i64 y) ∧ w'.cell? ⟨w4.heap.size, 2, none⟩ = some (.int .i64 z)) (first | with_reducible exact ⟨c0, c1, c3⟩ | with_reducible exact HS8.out | with_reducible exact HS7.out | with_reducible exact HS6.out | go_keep) (first
    | (go_at_call 7; with_reducible refine HS5.out.mono ?_; rintro e w6 ⟨rfl, hb6⟩; have HQ6 := hidJ hb6; have HS6 := hidJ (HK.out w6 HQ6.out); clear hb6)
    | (go_at_call 4; with_reducible refine (HCp.out w6 _ rfl HQ6.out).mono ?_; rintro e w7 ⟨rfl, ho7, hb7, hc7⟩; have HO7 := hidJ ho7; have HQ7 := hidJ hb7; have HS7 := hidJ (HK.out w7 HQ7.out); clear ho7 hb7 hc7)
    | (go_at_call 4; with_reducible refine (HCp.out _ (w6.heap.size + 1) (by simp) (HQ6.out.alloc HQ6.out.size (.cells #[.int .u8 5] 5))).mono ?_; rintro e w7 ⟨rfl, ho7, hb7, hc7⟩; have HO7 := hidJ ho7; have HQ7 := hidJ hb7; have HS7 := hidJ (HK.out w7 HQ7.out); have HSr := hidJ ((byte_src w6 _ 5 rfl (by omega)).kept hc7); clear ho7 hb7 hc7)
    | (refine stepJ_append (by kernel_rfl) _ _ rfl W5.heap.size _ zs rfl (HO7.out.alloc _) _ _ _ [5] rfl rfl (byte_src _ _ 5 rfl (by omega)) (by simp) HBd.out (HQ7.out.alloc HQ7.out.size _).size ?_; intro v8 w8 ho8 hg8 _; obtain ⟨g8, c8, hv8, hc8, hcm8, hbs8⟩ := full_of HN.out ho8; subst hv8; have HQ8 : Hid (Below W5.heap.size W5 w8) := (HQ7.out.alloc HQ7.out.size _).grown hg8 (HQ7.out.alloc HQ7.out.size _).size (fun k hk => (HO7.out.2.lt k hk).1); have HO8 := hidJ ho8; have HS8 := hidJ (HK.out w8 HQ8.out); clear ho8 hg8 hc8 hcm8 hbs8)
    | (refine stepJ_append (by kernel_rfl) _ _ rfl W5.heap.size _ zs rfl HO7.out _ _ _ [5] rfl rfl HSr.out (by simp) HBd.out HQ7.out.size ?_; intro v8 w8 ho8 hg8 _; obtain ⟨g8, c8, hv8, hc8, hcm8, hbs8⟩ := full_of HN.out ho8; subst hv8; have HQ8 : Hid (Below W5.heap.size W5 w8) := HQ7.out.grown hg8 HQ7.out.size (fun k hk => (HO7.out.2.lt k hk).1); have HO8 := hidJ ho8; have HS8 := hidJ (HK.out w8 HQ8.out); clear ho8 hg8 hc8 hcm8 hbs8)
    | (go_at_call 8; with_reducible refine (HSm.out w8 g8 c8 HQ8.out HO8.out).mono ?_; rintro e w9 ⟨rfl, hb9⟩; have HQ9 := hidJ hb9; have HS8 := hidJ (HK.out w9 HQ9.out); clear hb9))
  all_goals (
    go_wp2_with fail
    go_ret
    exact ⟨rfl, HB5.out.trans (HQ9.out.mono HB5.out.size)⟩)

end Go.Proofs.YtcpaonjidioclaaDoor
