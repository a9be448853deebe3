import Derived.Test.YtbcmmeajglilbaaGreatKShelf5
import Derived.Test.YtbcmmeajglilbaaGreatKCPut1
import Derived.Test.YtbcmmeajglilbaaGreatKBytes
/-
  Remove.
-/
namespace Go.Proofs.YtbcmmeajglilbaaGreat
open Go.RowKit Go.Sort

theorem fv_split {vs : List Vr} {n : Int} {v : Vr} (h : fv vs n = some v) : ∃ A C, vs = A ++ v :: C := List.append_of_mem (fv_some h).1
theorem split_uniqV {A A' C C' : List Vr} {t : Vr} (hn : ((A ++ t :: C).map Vr.n).Nodup) (h : A ++ t :: C = A' ++ t :: C') : A' = A ∧ C' = C := by
  have h1 := (nodup_split hn).1
  rw [h] at hn
  have h2 := (nodup_split hn).1
  induction A generalizing A' with
  | nil =>
    cases A' with
    | nil => simp at h; exact ⟨rfl, h.symm⟩
    | cons a A' => simp at h; exact absurd (h.1 ▸ rfl) (h2 a (by simp))
  | cons b A ih =>
    cases A' with
    | nil => simp at h; exact absurd (h.1 ▸ rfl) (h1 b (by simp))
    | cons a A' =>
      simp at h
      obtain ⟨rfl, h⟩ := h
      have hn' : ((A' ++ t :: C').map Vr.n).Nodup := by
        rw [List.cons_append, List.map_cons] at hn
        exact (List.nodup_cons.1 hn).2
      obtain ⟨h3, h4⟩ := ih hn' h (fun x hx => h1 x (by simp [hx])) (fun x hx => h2 x (by simp [hx]))
      exact ⟨by rw [h3], h4⟩
set_option maxRecDepth 100000 in
set_option maxHeartbeats 2000000 in
theorem remove_any (w : World) (S V D M L P : Nat) (hf : Value) (cap last : Int) (vs : List Vr) (es : List En) (R : K → Nat × Nat × Nat) (n : Int) (h : SA w S V D M L P hf cap last vs es R) (hn : In64 n) :
    Calls Tryz.prog 16 #[ptr S, .int .i64 n] w fun e w' => RemPost w S V D M L P hf cap last vs es R n e w' := by
  have c3 := h.cells.2.2.2.1
  have hl := h.look hn
  have HS : Hid (SA w S V D M L P hf cap last vs es R) := h
  clear h
  cases hc : fv vs n with
  | none =>
    rw [hc] at hl
    simp only [pf] at hl
    have HN : Hid (fv vs n = none) := hc
    clear hc
    go_enter Tryz.func16, Tryz.ntmps16
    go_wp2
    go_ret
    exact .inl ⟨HN.out, rfl, rfl⟩
  | some v =>
    rw [hc] at hl
    obtain ⟨hv, hvn⟩ := fv_some hc
    obtain ⟨ms, clock, hm1, hm2⟩ := HS.out.vm
    obtain ⟨A, C, ms', hsp, hdel0, hdm⟩ := vm_del hm1 HS.out.nums.1 hm2 HS.out.nums.2 hv 0
    obtain ⟨e0, he0, hk0, hfd⟩ := HS.out.find hv
    have HV : Hid (vs = A ++ v :: C ∧ v.n = n ∧ v ∈ vs) := ⟨hsp, hvn, hv⟩
    have HE : Hid (e0 ∈ es ∧ e0.k = v.k ∧ fd es v.k = some e0) := ⟨he0, hk0, hfd⟩
    simp only [pf] at hl
    clear hc hm1 hm2 hdel0 hdm hsp hvn hv he0 hk0 hfd
    have HCo := chainOf_any w S V D M L P hf cap last vs es R v HS.out HV.out.2.2 e0 HE.out.2.2
    go_enter Tryz.func16, Tryz.ntmps16
    go_wp2_with fail
    refine HCo.mono ?_
    clear HCo
    rintro e w1 ⟨rfl, hb1⟩
    have HB1 : Hid (Below w.heap.size w w1) := hb1
    have HL1 : Hid (Line w1 e0.v (R v.k).1 (R v.k).2.1 (R v.k).2.2 (ofK v.k A ++ v :: ofK v.k C)) := by
      have h1 := (HS.out.kept hb1).line HE.out.1
      rw [HE.out.2.1, HV.out.1, ofK_mid] at h1
      exact h1
    have HDr := drop_any w1 e0.v (R v.k).1 (R v.k).2.1 (R v.k).2.2 (ofK v.k A) (ofK v.k C) v HL1.out
    clear hb1 c3 hl
    go_wp2_with fail
    refine HDr.mono ?_
    clear HDr
    rintro e w2 ⟨rfl, off, cc, hd⟩
    rw [← ofK_app] at hd
    have HD : Hid (Drp w1 w2 e0.v (R v.k).1 off cc ((ofK v.k (A ++ C)).map Vr.b)) := hd
    have x0 : w2.cell? ⟨e0.v, 0, none⟩ = some (.slice (some ⟨(R v.k).1, off, none⟩) ((ofK v.k (A ++ C)).map Vr.b).length cc) := by rw [World.cell?, hd.ch]; rfl
    rw [List.length_map] at x0
    obtain ⟨m, hm⟩ : ∃ m, m = (ofK v.k (A ++ C)).length := ⟨_, rfl⟩
    rw [← hm] at x0
    have HM : Hid (m = (ofK v.k (A ++ C)).length) := hm
    have HS' : Hid (SA w S V D M L P hf cap last (A ++ v :: C) es R) := by have := HS.out; rw [HV.out.1] at this; exact this
    clear hd hm HL1
    go_upto_if 26 with fail
    go_cut [] (fun wx => ∃ es', Hid (Gone w wx S V D M L P hf A C v es es' R off cc))
    case first =>
      by_cases hm0 : m = 0
      · subst hm0
        have hnil : ofK v.k (A ++ C) = [] := List.length_eq_zero_iff.1 HM.out.symm
        have HDp : Hid (DA w2 D M L hf P es ∧ w2.heap[S]? = w.heap[S]? ∧ w2.heap[v.b]? = w.heap[v.b]?) := by
          have hd := HS'.out.dropped HE.out.1 HE.out.2.1 HB1.out HD.out
          exact ⟨hd.1, hd.2.2.1, hd.2.2.2.2.1 v (by simp)⟩
        have HTk : Hid (Calls Tryz.prog 55 #[ptr D, .agg #[.int .i64 v.k.1, .int .i64 v.k.2]] w2.drew fun e w' => e = .returned (.tuple #[ptr e0.v, .bool true]) ∧ (∃ A C, es = A ++ e0 :: C ∧ DA w' D M L hf P (A ++ C)) ∧ Fr (Ft M L es) w2 w') := by
          have hd : DA w2.drew D M L hf P es := HDp.out.1.same (fun _ _ => rfl)
          refine (take_some w2.drew D M L P hf es v.k hd (HS.out.inn v HV.out.2.2).1 e0 HE.out.2.2 (by have := HS.out.el; have := HS.out.lt; omega)).mono fun e w' ⟨h1, h2, h3⟩ => ⟨h1, h2, ⟨h3.os, h3.tape, h3.output, h3.size, h3.block⟩⟩
        have HNl : Hid (ofK v.k (A ++ C) = []) := hnil
        have HCl : Hid (∀ W : World, W.heap[S]? = w.heap[S]? → W.heap[v.b]? = w.heap[v.b]? → W.cell? ⟨S, 4, none⟩ = some (ptr D) ∧ W.cell? ⟨v.b, 3, none⟩ = some (.int .i64 v.k.1) ∧ W.cell? ⟨v.b, 4, none⟩ = some (.int .i64 v.k.2)) := fun W x1 x2 => by
          have q1 := HS.out.st
          have q2 := HS.out.vb v HV.out.2.2
          rw [← x1] at q1
          rw [← x2] at q2
          refine ⟨?_, ?_, ?_⟩ <;> simp [World.cell?, q1, q2, cellsV]
        obtain ⟨s4, b3, b4⟩ := HCl.out w2 HDp.out.2.1 HDp.out.2.2
        have HSv : Hid (¬ Ft M L es S ∧ ¬ Ft M L es v.b ∧ S < w2.heap.size ∧ v.b < w2.heap.size) := by
          refine ⟨fun hF => (HS.out.dict_ne (.inr hF)).2.2.2.1 rfl, fun hF => (HS.out.dict_ne (.inr hF)).2.2.1 v HV.out.2.2 rfl, ?_, ?_⟩
          · exact blk_lt (HDp.out.2.1.trans HS.out.st)
          · exact blk_lt (HDp.out.2.2.trans (HS.out.vb v HV.out.2.2))
        clear hnil
        generalize hk1 : v.k.1 = k1 at *
        generalize hk2 : v.k.2 = k2 at *
        clear hk1 hk2
        go_upto_region 7 with fail
        go_region_held3 (fun w' => w'.cell? ⟨S, 4, none⟩ = some (ptr D) ∧ w'.cell? ⟨v.b, 3, none⟩ = some (.int .i64 k1) ∧ w'.cell? ⟨v.b, 4, none⟩ = some (.int .i64 k2)) (first | with_reducible exact HX3.out.2 | go_keep) (first | (go_at_call 55; refine HTk.out.mono ?_; rintro e w3 ⟨rfl, ⟨A1, C1, hes, hda⟩, hf3⟩; have HX3 : Hid (Gone w w3 S V D M L P hf A C v es (A1 ++ C1) R off cc ∧ (w3.cell? ⟨S, 4, none⟩ = some (ptr D) ∧ w3.cell? ⟨v.b, 3, none⟩ = some (.int .i64 k1) ∧ w3.cell? ⟨v.b, 4, none⟩ = some (.int .i64 k2))) := ⟨HS'.out.gone2 hes HE.out.2.1 HB1.out HD.out HNl.out hda hf3, HCl.out _ ((hf3.block _ HSv.out.2.2.1 HSv.out.1).trans HDp.out.2.1) ((hf3.block _ HSv.out.2.2.2 HSv.out.2.1).trans HDp.out.2.2)⟩; clear hes hda hf3))
        go_wp2
        go_meet
        exact ⟨A1 ++ C1, HX3.out.1⟩
      · have hm1 : ¬ (m : Int) = 0 := by omega
        have hm2 : ((m : Int) == 0) = false := by simpa using hm1
        have HG : Hid (Gone w w2 S V D M L P hf A C v es es R off cc) := HS'.out.gone1 HE.out.1 HE.out.2.1 HB1.out HD.out (fun e => hm0 (by rw [HM.out, e]; rfl))
        go_wp2
        go_meet
        exact ⟨es, HG⟩
    case rest =>
      obtain ⟨es', HG⟩ := hcut
      obtain ⟨ms, clock, hm1, hm2⟩ := HS'.out.vm
      have hvV : wc.heap[V]? = some (.map ms clock) := HG.out.vm.trans hm1
      have hs3 : wc.cell? ⟨S, 3, none⟩ = some (.map (some V)) := by rw [World.cell?, HG.out.st, HS'.out.st]; rfl
      obtain ⟨A2, C2, ms', h1, hdl, h3⟩ := vm_del hvV HS'.out.nums.1 hm2 HS'.out.nums.2 (e := v) (by simp) 0
      rw [HV.out.2.1] at hdl
      obtain ⟨rfl, rfl⟩ := split_uniqV HS'.out.nums.2 h1
      have HFn : Hid (SA (ChangeMaps.setBlock wc V (.map ms' clock)) S V D M L P hf cap last (A2 ++ C2) es' (fun k => if k = v.k then ((R v.k).1, off, cc) else R k) ∧ Fr (Fs S V D M L (A2 ++ v :: C2) es R) w (ChangeMaps.setBlock wc V (.map ms' clock)) ∧ ∀ k', Fs S V D M L (A2 ++ C2) es' (fun k => if k = v.k then ((R v.k).1, off, cc) else R k) k' → Fs S V D M L (A2 ++ v :: C2) es R k') :=
        HG.out.fin HS'.out ⟨_, _, ChangeMaps.heap_setBlock_same hvV _, h3⟩ (fun k hk => ChangeMaps.heap_setBlock_other hvV _ hk) ⟨rfl, rfl, rfl, by simp [ChangeMaps.setBlock]⟩
      clear h1 h3 hm1 hm2 hvV
      go_wp2
      go_ret
      refine .inr ⟨A2, v, C2, es', _, HV.out.1, HV.out.2.1, rfl, HFn.out.1, ?_⟩
      rw [HV.out.1]
      exact HFn.out.2
end Go.Proofs.YtbcmmeajglilbaaGreat
/-
  Part, WHERE keys.Hash IS THE HASH FUNCTION.
-/
namespace Go.Proofs.YtbcmmeajglilbaaGreat
open Go.RowKit Go.Sort

set_option maxRecDepth 100000 in
set_option maxHeartbeats 1000000 in
theorem part_hash (w : World) (D M L P : Nat) (es : List En) (k : K) (hkin : KIn k) (h : DA w D M L (hfn 11) P es) :
    Calls Tryz.prog 70 #[ptr D, kv k] w fun e w' => e = .returned (.int .i64 ((hash k % P : Nat) : Int)) ∧ Below w.heap.size w w' := by
  obtain ⟨k1, k2⟩ := k
  have HB1 : Hid (Below w.heap.size w (w.alloc (.cells #[.int .i64 k1, .int .i64 k2] 41))) := (Below.refl _ _).alloc (Nat.le_refl _) _
  have HD : Hid (DA (w.alloc (.cells #[.int .i64 k1, .int .i64 k2] 41)) D M L (hfn 11) P es) := h.kept HB1.out
  have hP := h.P0
  have hlt := hash_lt (k1, k2)
  have HK : Hid (∀ w, Calls Tryz.prog 11 #[.agg #[.int .i64 k1, .int .i64 k2]] w fun e w' => e = .returned (.int .u64 ((hash (k1, k2) : Nat) : Int)) ∧ Grew w w') := fun w => hash_any w k1 k2 hkin.2
  generalize hash (k1, k2) = hv at *
  have HDv : Hid (((hv : Nat) : Int) % (P : Int) = ((hv % P : Nat) : Int)) := by rw [Hid]; simp
  have hm : (hv : Int) % (P : Int) < 256 := by have := Int.emod_lt_of_pos (hv : Int) (show (0 : Int) < P by omega); omega
  have hm0 : 0 ≤ (hv : Int) % (P : Int) := Int.emod_nonneg _ (by omega)
  obtain ⟨c0, _, c2⟩ := HD.out.cells
  clear h hkin
  go_enter Tryz.func70, Tryz.ntmps70
  go_wp2_with fail
  have b0 : (w.alloc (.cells #[.int .i64 k1, .int .i64 k2] 41)).cell? ⟨w.heap.size, 0, none⟩ = some (.int .i64 k1) := by rw [World.cell?, heap_alloc_new _ _ rfl]; rfl
  have b1 : (w.alloc (.cells #[.int .i64 k1, .int .i64 k2] 41)).cell? ⟨w.heap.size, 1, none⟩ = some (.int .i64 k2) := by rw [World.cell?, heap_alloc_new _ _ rfl]; rfl
  generalize w.alloc (.cells #[.int .i64 k1, .int .i64 k2] 41) = W1 at *
  have g0 : ∀ m os, (grow (W1.drewN m) os).cell? ⟨D, 0, none⟩ = some (hfn 11) := fun m os => Grew.cell ⟨m, os, rfl⟩ c0
  have g2 : ∀ m os, (grow (W1.drewN m) os).cell? ⟨D, 2, none⟩ = some (.slice (some ⟨L, 0, none⟩) P P) := fun m os => Grew.cell ⟨m, os, rfl⟩ c2
  have e0 : ∀ m os, (grow (W1.drewN m) os).cell? ⟨w.heap.size, 0, none⟩ = some (.int .i64 k1) := fun m os => Grew.cell ⟨m, os, rfl⟩ b0
  have e1 : ∀ m os, (grow (W1.drewN m) os).cell? ⟨w.heap.size, 1, none⟩ = some (.int .i64 k2) := fun m os => Grew.cell ⟨m, os, rfl⟩ b1
  clear c0 c2 b0 b1
  refine wp_region_quiet_grown mixed (by kernel_rfl) ?_
  repeat (go_big_quiet_step (exact Calls.grown_of (HK.out _)))
  refine wpQuiet_nil ?_
  intro _ hw'
  obtain ⟨⟨nq, osq⟩, hw''⟩ := hw'
  subst hw''
  have HF : Hid (Below w.heap.size w (grow (W1.drewN nq) osq)) := HB1.out.trans ((Grew.below ⟨nq, osq, rfl⟩).mono HB1.out.size)
  go_wp2
  go_ret
  exact ⟨by rw [← HDv.out]; rfl, HF.out⟩
theorem part_ok : PartOK 11 hash := fun w D M L P es k hk h => part_hash w D M L P es k hk h
end Go.Proofs.YtbcmmeajglilbaaGreat
/-
  New, Newest, Fill.
-/
namespace Go.Proofs.YtbcmmeajglilbaaGreat
open Go.RowKit Go.Sort

/-- a store without versions -/
theorem SA.new {w W : World} {S V D M L P : Nat} {hf : Value} {cap : Int} (hd : DA w D M L hf P []) (hb : Below w.heap.size w W) (hc : 1 ≤ cap ∧ cap ≤ 65536)
    (st : W.heap[S]? = some (.cells #[.int .i64 (P : Int), .int .i64 cap, .int .i64 0, .map (some V), ptr D] 61 (0, 0))) (vm : W.heap[V]? = some (.map #[] 0)) (hV : w.heap.size ≤ V) : SA W S V D M L P hf cap 0 [] [] (fun _ => (0, 0, 0)) := by
  refine ⟨st, ⟨#[], 0, vm, rfl⟩, by simp, hd.kept hb, by simp, by simp, by simp, by simp, by simp, by simp, by simp, by simp, by simp, by simp, by simp [ofK], by simp, fun e => ?_, by simp; omega, by simp, by simp, by simp, by simp⟩
  have := hd.lt (k := M) (.inr (.inl rfl))
  omega
/-- what New leaves -/
def NewPost (w : World) (n : Nat) (cap : Int) (e : Ending) (w' : World) : Prop :=
  ∃ S V D M L, e = .returned (.tuple #[ptr S, .int .i64 0]) ∧ SA w' S V D M L n (hfn 11) cap 0 [] [] (fun _ => (0, 0, 0)) ∧ (∀ k, Fs S V D M L [] [] (fun _ => (0, 0, 0)) k → w.heap.size ≤ k) ∧ Below w.heap.size w w'
set_option maxRecDepth 100000 in
set_option maxHeartbeats 1000000 in
theorem new_any (w : World) (n : Nat) (cap : Int) (h1 : 1 ≤ n) (h2 : n ≤ 256) (hc : 1 ≤ cap ∧ cap ≤ 65536) :
    Calls Tryz.prog 4 #[.int .i64 (n : Int), .int .i64 cap] w fun e w' => NewPost w n cap e w' := by
  have HN := new_fn w 11 n h1 h2
  have hmk : ∀ w : World, (Instr.makeMap 59 none).run Tryz.prog w = .ok (.map (some w.heap.size)) (w.alloc (.map #[] 0)) := fun w => by
    simp [Instr.makeMap, Result.andThen]
  have hc1 : ¬ cap < 1 := by omega
  have hc2 : ¬ 65536 < cap := by omega
  have hc1b : decide (cap < 1) = false := by simpa using hc1
  have hc2b : decide (65536 < cap) = false := by simpa using hc2
  have HC : Hid (1 ≤ cap ∧ cap ≤ 65536) := hc
  clear hc h1 h2
  go_enter Tryz.func4, Tryz.ntmps4
  go_wp2_with fail
  refine HN.mono ?_
  clear HN
  rintro e w1 ⟨D, M, L, rfl, hd, hge, hb1⟩
  have HD : Hid (DA w1 D M L (hfn 11) n [] ∧ (w.heap.size ≤ D ∧ w.heap.size ≤ M ∧ w.heap.size ≤ L) ∧ Below w.heap.size w w1) := ⟨hd, hge, hb1⟩
  clear hd hge hb1
  go_wp2
  go_ret2
  have hb2 : Below w1.heap.size w1 ((w1.alloc (.map #[] 0)).alloc (.cells #[.int .i64 (n : Int), .int .i64 cap, .int .i64 0, .map (some w1.heap.size), ptr D] 61)) := ((Below.refl _ _).alloc (Nat.le_refl _) _).alloc (by simp) _
  have hz := HD.out.2.2.size
  refine ⟨w1.heap.size + 1, w1.heap.size, D, M, L, rfl, SA.new HD.out.1 hb2 HC.out (heap_alloc_new _ _ (by simp)) ((heap_alloc_old _ _ (by simp)).trans (heap_alloc_new _ _ rfl)) (Nat.le_refl _), fun k hk => ?_, HD.out.2.2.trans (hb2.mono hz)⟩
  have hge := HD.out.2.1
  rcases hk with rfl | rfl | ⟨_, h, _⟩ | hk | ⟨_, h, _⟩ | ⟨_, h, _⟩
  · omega
  · omega
  · cases h
  · rcases hk with rfl | rfl | rfl | ⟨_, h, _⟩
    · exact hge.1
    · exact hge.2.1
    · exact hge.2.2
    · cases h
  · cases h
  · cases h
/-- the newest one's number -/
def newestN (k : K) (vs : List Vr) : Int := match (ofK k vs).getLast? with | none => 0 | some v => v.n
set_option maxRecDepth 100000 in
set_option maxHeartbeats 1000000 in
theorem newestS_any (w : World) (S V D M L P : Nat) (hf : Value) (cap last : Int) (vs : List Vr) (es : List En) (R : K → Nat × Nat × Nat) (k1 k2 : Int) (h : SA w S V D M L P hf cap last vs es R) (hk : KIn (k1, k2)) :
    Calls Tryz.prog 24 #[ptr S, .agg #[.int .i64 k1, .int .i64 k2]] w fun e w' => e = .returned (.int .i64 (newestN (k1, k2) vs)) ∧ Below w.heap.size w w' := by
  obtain ⟨W, hW⟩ : ∃ W, W = w.alloc (.cells #[.int .i64 k1, .int .i64 k2] 41) := ⟨_, rfl⟩
  have HB : Hid (Below w.heap.size w W) := by
    show Below _ _ _
    rw [hW]
    exact (Below.refl _ _).alloc (Nat.le_refl _) _
  have hx : W.heap[w.heap.size]? = some (.cells #[.int .i64 k1, .int .i64 k2] 41 (0, 0)) := by rw [hW]; exact heap_alloc_new _ _ rfl
  have HS : Hid (SA W S V D M L P hf cap last vs es R) := h.kept HB.out
  have HKn : Hid (∀ U, Below W.heap.size W U → U.cell? ⟨S, 4, none⟩ = some (ptr D) ∧ U.cell? ⟨w.heap.size, 0, none⟩ = some (.int .i64 k1) ∧ U.cell? ⟨w.heap.size, 1, none⟩ = some (.int .i64 k2)) := fun U hU => by
    have q := (hU.block _ (blk_lt hx)).trans hx
    refine ⟨(HS.out.kept hU).cells.2.2.2.2, ?_, ?_⟩ <;> simp [World.cell?, q]
  have HG : Hid (Calls Tryz.prog 59 #[ptr D, .agg #[.int .i64 k1, .int .i64 k2]] W.drew fun e w' => e = .returned (.tuple #[vv (fd es (k1, k2)), .bool (fd es (k1, k2)).isSome]) ∧ Below W.heap.size W w') := by
    have hd : Below W.heap.size W W.drew := ⟨rfl, rfl, rfl, Nat.le_refl _, fun _ _ => rfl⟩
    exact (get_any W.drew D M L P hf es (k1, k2) (HS.out.da.kept hd) hk).mono fun e w' ⟨h1, h2⟩ => ⟨h1, hd.trans h2⟩
  obtain ⟨c4, b0, b1⟩ := HKn.out W (Below.refl _ _)
  clear h hx
  go_enter Tryz.func24, Tryz.ntmps24
  go_wp2_with fail
  rw [← hW]
  clear hW
  go_region_held3 (fun w' => w'.cell? ⟨S, 4, none⟩ = some (ptr D) ∧ w'.cell? ⟨w.heap.size, 0, none⟩ = some (.int .i64 k1) ∧ w'.cell? ⟨w.heap.size, 1, none⟩ = some (.int .i64 k2)) (first | exact HKn.out _ HB3.out | go_keep) (first | (go_at_call 59; refine HG.out.mono ?_; rintro e w3 ⟨rfl, hb3⟩; have HB3 : Hid (Below W.heap.size W w3) := hb3; clear hb3))
  clear c4 b0 b1 HG HKn
  have HBw : Hid (Below w.heap.size w w3) := HB.out.trans (HB3.out.mono HB.out.size)
  cases hfd : fd es (k1, k2) with
  | none =>
    have hof := HS.out.none_of hfd
    have HE : Hid (newestN (k1, k2) vs = 0) := by show _ = _; unfold newestN; rw [hof]; rfl
    simp only [vv, Option.isSome]
    clear hfd hof
    go_wp2
    go_ret
    exact ⟨by rw [HE.out]; rfl, HBw.out⟩
  | some e0 =>
    obtain ⟨he0, hk0⟩ := fd_some hfd
    obtain ⟨ys, y, hys⟩ := snoc_of (HS.out.ne e0 he0)
    have hl := (HS.out.kept HB3.out).line he0
    rw [hk0] at hys hl
    rw [hys] at hl
    have HL : Hid (Line w3 e0.v (R (k1, k2)).1 (R (k1, k2)).2.1 (R (k1, k2)).2.2 (ys ++ [y])) := hl
    have HE : Hid (newestN (k1, k2) vs = y.n) := by show _ = _; unfold newestN; rw [hys]; simp
    have HNw := newest_any w3 e0.v (R (k1, k2)).1 (R (k1, k2)).2.1 (R (k1, k2)).2.2 (ys.map Vr.b) y.b (by have := hl.ch; simpa using this) (by have := hl.rw; simpa using this) (by have := hl.sz; simp at this ⊢; omega)
    simp only [vv, Option.isSome]
    clear hfd he0 hk0 hys hl
    go_wp2_with fail
    refine HNw.mono ?_
    clear HNw
    rintro e w4 ⟨rfl, q, rfl⟩
    have c2 : (w3.drewN q).cell? ⟨y.b, 2, none⟩ = some (.int .i64 y.n) := by
      have : (w3.drewN q).heap[y.b]? = _ := HL.out.vb y (by simp)
      rw [World.cell?, this]; rfl
    have HB4 : Hid (Below w.heap.size w (w3.drewN q)) := ⟨HBw.out.os, HBw.out.tape, HBw.out.output, HBw.out.size, HBw.out.block⟩
    clear HL HB3 HS
    go_wp2
    go_ret
    exact ⟨by rw [HE.out]; rfl, HB4.out⟩
end Go.Proofs.YtbcmmeajglilbaaGreat
/-
  A LIST OF NUMBERS THAT GROWS.
-/
namespace Go.Proofs.YtbcmmeajglilbaaGreat
open Go.RowKit Go.Sort

/-- a list of numbers in block g, from off on, with room for c -/
structure RwI (w : World) (g off c : Nat) (xs : List Int) : Prop where
  row : ∃ cur, w.heap[g]? = some (.cells cur 3 (0, 0)) ∧ cur.size = off + c ∧ ∀ j (h : j < xs.length), cur[off + j]? = some (.int .i64 xs[j])
  le : xs.length ≤ c
  cm : c ≤ 9223372036854775807
theorem RwI.same {w w' : World} {g off c : Nat} {xs : List Int} (h : RwI w g off c xs) (hs : w'.heap[g]? = w.heap[g]?) : RwI w' g off c xs := by
  obtain ⟨⟨cur, h1, h2⟩, h3, h4⟩ := h
  exact ⟨⟨cur, hs.trans h1, h2⟩, h3, h4⟩
theorem RwI.cell {w : World} {g off c : Nat} {xs : List Int} (h : RwI w g off c xs) {j : Nat} (hj : j < xs.length) : w.cell? ⟨g, off + j, none⟩ = some (.int .i64 xs[j]) := by
  obtain ⟨⟨cur, h1, _, h2⟩, _⟩ := h
  rw [World.cell?, h1]
  exact h2 j hj
theorem infoI : (Tryz.prog.info? 3).map (fun i => (i.zero, i.size, i.bytes)) = some (some (.int .i64 0), 1, 8) := by kernel_rfl
end Go.Proofs.YtbcmmeajglilbaaGreat
/-
  A STORE AS A LAW SEES IT.
-/
namespace Go.Proofs.YtbcmmeajglilbaaGreat
open Go.RowKit Go.Sort

/-- blocks below n0, and those of F, stay -/
structure Kp (n0 : Nat) (F : Nat → Prop) (w w' : World) : Prop where
  os : w'.os = w.os
  tape : w'.tape = w.tape
  output : w'.output = w.output
  size : w.heap.size ≤ w'.heap.size
  block : ∀ k, k < w.heap.size → (k < n0 ∨ F k) → w'.heap[k]? = w.heap[k]?
theorem Kp.trans {n0 : Nat} {F : Nat → Prop} {a b c : World} (h : Kp n0 F a b) (h2 : Kp n0 F b c) : Kp n0 F a c :=
  ⟨h2.os.trans h.os, h2.tape.trans h.tape, h2.output.trans h.output, Nat.le_trans h.size h2.size, fun k hk hF => (h2.block k (Nat.lt_of_lt_of_le hk h.size) hF).trans (h.block k hk hF)⟩
theorem Kp.ofBelow {n0 : Nat} {F : Nat → Prop} {w w' : World} (h : Below w.heap.size w w') : Kp n0 F w w' := ⟨h.os, h.tape, h.output, h.size, fun k hk _ => h.block k hk⟩
theorem Kp.refl (n0 : Nat) (F : Nat → Prop) (w : World) : Kp n0 F w w := Kp.ofBelow (Below.refl _ _)
theorem Kp.below {n0 : Nat} {F : Nat → Prop} {w w' : World} (h : Kp n0 F w w') (hn : n0 ≤ w.heap.size) : Below n0 w w' := ⟨h.os, h.tape, h.output, h.size, fun k hk => h.block k (by omega) (.inl hk)⟩
theorem Kp.mono {n0 : Nat} {F G : Nat → Prop} {w w' : World} (h : Kp n0 F w w') (hG : ∀ k, k < w.heap.size → G k → F k) : Kp n0 G w w' := ⟨h.os, h.tape, h.output, h.size, fun k hk hF => h.block k hk (hF.imp id (hG k hk))⟩
/-- a store whose blocks are none below n0 and none of F -/
def ST (n0 : Nat) (F : Nat → Prop) (w : World) (S P : Nat) (cap last : Int) (vs : List Vr) : Prop :=
  ∃ V D M L es R, SA w S V D M L P (hfn 11) cap last vs es R ∧ ∀ k, Fs S V D M L vs es R k → n0 ≤ k ∧ ¬ F k
section
variable {n0 : Nat} {F : Nat → Prop} {w w' : World} {S P : Nat} {cap last : Int} {vs : List Vr}
theorem ST.kept (h : ST n0 F w S P cap last vs) (hb : Below w.heap.size w w') : ST n0 F w' S P cap last vs := by
  obtain ⟨V, D, M, L, es, R, h1, h2⟩ := h
  exact ⟨V, D, M, L, es, R, h1.kept hb, h2⟩
/-- where only blocks of F turn -/
theorem ST.off (h : ST n0 F w S P cap last vs) (hs : ∀ k, k < w.heap.size → ¬ F k → w'.heap[k]? = w.heap[k]?) : ST n0 F w' S P cap last vs := by
  obtain ⟨V, D, M, L, es, R, h1, h2⟩ := h
  exact ⟨V, D, M, L, es, R, h1.same (fun k hk => hs k (h1.lt' hk) (h2 k hk).2), h2⟩
theorem ST.frame {G : Nat → Prop} (h : ST n0 F w S P cap last vs) (hG : ∀ k, G k → F k ∨ w.heap.size ≤ k) : ST n0 G w S P cap last vs := by
  obtain ⟨V, D, M, L, es, R, h1, h2⟩ := h
  refine ⟨V, D, M, L, es, R, h1, fun k hk => ⟨(h2 k hk).1, fun hg => ?_⟩⟩
  have := h1.lt' hk
  rcases hG k hg with h3 | h3
  · exact (h2 k hk).2 h3
  · omega
theorem ST.nd (h : ST n0 F w S P cap last vs) : (vs.map Vr.n).Nodup := by
  obtain ⟨V, D, M, L, es, R, h1, h2⟩ := h
  exact h1.nums.2
theorem ST.nl (h : ST n0 F w S P cap last vs) : ∀ v ∈ vs, 1 ≤ v.n ∧ v.n ≤ last := by
  obtain ⟨V, D, M, L, es, R, h1, h2⟩ := h
  exact h1.nl
theorem ST.nn (h : ST n0 F w S P cap last vs) : vs.Pairwise (fun a b => a.n < b.n) := by
  obtain ⟨V, D, M, L, es, R, h1, h2⟩ := h
  exact h1.nn
theorem ST.lt (h : ST n0 F w S P cap last vs) : last ≤ 1000000000000000 ∧ 1 ≤ cap ∧ cap ≤ 65536 ∧ (vs.length : Int) ≤ cap := by
  obtain ⟨V, D, M, L, es, R, h1, h2⟩ := h
  exact h1.lt
theorem ST.inn (h : ST n0 F w S P cap last vs) : ∀ v ∈ vs, KIn v.k ∧ In64 v.ba ∧ In64 v.ix ∧ In64 v.cv := by
  obtain ⟨V, D, M, L, es, R, h1, h2⟩ := h
  exact h1.inn
theorem ST.pl (h : ST n0 F w S P cap last vs) (k : K) : (ofK k vs).Pairwise (fun a b => later b a) := by
  obtain ⟨V, D, M, L, es, R, h1, h2⟩ := h
  exact h1.pl k
end
theorem drew_below (w : World) (q : Nat) : Below w.heap.size w (w.drewN q) := ⟨rfl, rfl, rfl, Nat.le_refl _, fun _ _ => rfl⟩
theorem new_st (n0 : Nat) (F : Nat → Prop) (w : World) (n : Nat) (cap : Int) (h1 : 1 ≤ n) (h2 : n ≤ 256) (hc : 1 ≤ cap ∧ cap ≤ 65536) (hn0 : n0 ≤ w.heap.size) (hF : ∀ k, F k → k < w.heap.size) :
    Calls Tryz.prog 4 #[.int .i64 (n : Int), .int .i64 cap] w fun e w' => ∃ S, e = .returned (.tuple #[ptr S, .int .i64 0]) ∧ ST n0 F w' S n cap 0 [] ∧ Below w.heap.size w w' := by
  refine (new_any w n cap h1 h2 hc).mono ?_
  rintro e w' ⟨S, V, D, M, L, rfl, hs, hk, hb⟩
  exact ⟨S, rfl, ⟨V, D, M, L, [], _, hs, fun k hk' => ⟨by have := hk k hk'; omega, fun hf => by have := hk k hk'; have := hF k hf; omega⟩⟩, hb⟩
theorem live_st (n0 : Nat) (F : Nat → Prop) (w : World) (S P : Nat) (cap last : Int) (vs : List Vr) (h : ST n0 F w S P cap last vs) :
    Calls Tryz.prog 36 #[ptr S] w fun e w' => e = .returned (.int .i64 (vs.length : Int)) ∧ w' = w := by
  obtain ⟨V, D, M, L, es, R, h1, h2⟩ := h
  exact live_any w S V D M L P _ cap last vs es R h1
theorem room_st (n0 : Nat) (F : Nat → Prop) (w : World) (S P : Nat) (cap last : Int) (vs : List Vr) (h : ST n0 F w S P cap last vs) :
    Calls Tryz.prog 37 #[ptr S] w fun e w' => e = .returned (.int .i64 (cap - (vs.length : Int))) ∧ Below w.heap.size w w' := by
  obtain ⟨V, D, M, L, es, R, h1, h2⟩ := h
  refine (room_any w S V D M L P _ cap last vs es R h1).mono ?_
  rintro e w' ⟨rfl, q, rfl⟩
  exact ⟨rfl, drew_below w q⟩
theorem insert_st (n0 : Nat) (F : Nat → Prop) (w : World) (S P : Nat) (cap last : Int) (vs : List Vr) (h : ST n0 F w S P cap last vs) (hF : ∀ k, F k → k < w.heap.size) (hn0 : n0 ≤ w.heap.size) (k : K) (ba ix : Int) (hk : KIn k) (hba : In64 ba) (hix : In64 ix) (hl0 : 0 ≤ last ∧ last + 1 ≤ 1000000000000000) :
    Calls Tryz.prog 12 #[ptr S, kv k, .int .i64 ba, .int .i64 ix] w fun e w' => Kp n0 F w w' ∧
      ((insE cap vs (xV 0 last k ba ix) ≠ 0 ∧ e = .returned (.tuple #[.int .i64 0, .int .i64 (insE cap vs (xV 0 last k ba ix))]) ∧ ST n0 F w' S P cap last vs) ∨
       (insE cap vs (xV 0 last k ba ix) = 0 ∧ e = .returned (.tuple #[.int .i64 (last + 1), .int .i64 0]) ∧ ∃ b, ST n0 F w' S P cap (last + 1) (vs ++ [xV b last k ba ix]))) := by
  obtain ⟨V, D, M, L, es, R, h1, h2⟩ := h
  refine (insert_any w S V D M L P _ part_ok cap last vs es R k ba ix h1 hk hba hix hl0).mono ?_
  rintro e w' (⟨q1, q2, q3⟩ | ⟨q1, q2, b, es', R', _, q3, q4, q5⟩)
  · exact ⟨Kp.ofBelow q3, .inl ⟨q1, q2, V, D, M, L, es, R, h1.kept q3, h2⟩⟩
  · refine ⟨⟨q4.os, q4.tape, q4.output, q4.size, fun k hk hF' => q4.block k hk (fun hS => ?_)⟩, .inr ⟨q1, q2, b, V, D, M, L, es', R', q3, fun k' hk' => ?_⟩⟩
    · have := h2 k hS
      rcases hF' with h3 | h3
      · omega
      · exact this.2 h3
    · rcases q5 k' hk' with h3 | h3
      · exact h2 k' h3
      · exact ⟨by omega, fun hf => by have := hF k' hf; omega⟩
theorem remove_st (n0 : Nat) (F : Nat → Prop) (w : World) (S P : Nat) (cap last : Int) (vs : List Vr) (h : ST n0 F w S P cap last vs) (n : Int) (hn : In64 n) :
    Calls Tryz.prog 16 #[ptr S, .int .i64 n] w fun e w' => Kp n0 F w w' ∧
      ((fv vs n = none ∧ e = .returned (.int .i64 93) ∧ ST n0 F w' S P cap last vs) ∨
       (∃ A v C, vs = A ++ v :: C ∧ v.n = n ∧ e = .returned (.int .i64 0) ∧ ST n0 F w' S P cap last (A ++ C))) := by
  obtain ⟨V, D, M, L, es, R, h1, h2⟩ := h
  refine (remove_any w S V D M L P _ cap last vs es R n h1 hn).mono ?_
  rintro e w' (⟨q1, q2, rfl⟩ | ⟨A, v, C, es', R', q0, q1, q2, q3, q4, q5⟩)
  · exact ⟨Kp.refl _ _ _, .inl ⟨q1, q2, V, D, M, L, es, R, h1, h2⟩⟩
  · refine ⟨⟨q4.os, q4.tape, q4.output, q4.size, fun k hk hF' => q4.block k hk (fun hS => ?_)⟩, .inr ⟨A, v, C, q0, q1, q2, V, D, M, L, es', R', q3, fun k' hk' => h2 k' (q5 k' hk')⟩⟩
    have := h2 k hS
    rcases hF' with h3 | h3
    · omega
    · exact this.2 h3
theorem newest_st (n0 : Nat) (F : Nat → Prop) (w : World) (S P : Nat) (cap last : Int) (vs : List Vr) (h : ST n0 F w S P cap last vs) (k1 k2 : Int) (hk : KIn (k1, k2)) :
    Calls Tryz.prog 24 #[ptr S, .agg #[.int .i64 k1, .int .i64 k2]] w fun e w' => e = .returned (.int .i64 (newestN (k1, k2) vs)) ∧ Below w.heap.size w w' := by
  obtain ⟨V, D, M, L, es, R, h1, h2⟩ := h
  exact newestS_any w S V D M L P _ cap last vs es R k1 k2 h1 hk
theorem look_st (n0 : Nat) (F : Nat → Prop) (w : World) (S P : Nat) (cap last : Int) (vs : List Vr) (h : ST n0 F w S P cap last vs) (n : Int) (hn : In64 n) :
    Calls Tryz.prog 18 #[ptr S, .int .i64 n] w fun e w' => e = .returned (.tuple #[(lkV (fv vs n)).1, .int .i64 (lkV (fv vs n)).2]) ∧ Below w.heap.size w w' := by
  obtain ⟨V, D, M, L, es, R, h1, h2⟩ := h
  exact look_any w S V D M L P _ cap last vs es R n h1 hn
end Go.Proofs.YtbcmmeajglilbaaGreat
/-
  visible, Visible.
-/
namespace Go.Proofs.YtbcmmeajglilbaaGreat
open Go.RowKit Go.Sort

/-- the newest one's number that is not above a batch -/
def visN (ys : List Vr) (at_ : Int) : Int := match (ys.filter (fun v => decide (v.ba ≤ at_))).getLast? with | none => 0 | some v => v.n
theorem prefix_of : ∀ (ys : List Vr) (at_ : Int), ys.Pairwise (fun a b => a.ba ≤ b.ba) → ∃ A C, ys = A ++ C ∧ (∀ x ∈ A, x.ba ≤ at_) ∧ (∀ x ∈ C, at_ < x.ba)
  | [], _, _ => ⟨[], [], rfl, by simp, by simp⟩
  | y :: ys, at_, hp => by
    obtain ⟨h1, h2⟩ := List.pairwise_cons.1 hp
    by_cases hy : y.ba ≤ at_
    · obtain ⟨A, C, rfl, hA, hC⟩ := prefix_of ys at_ h2
      refine ⟨y :: A, C, rfl, fun x hx => ?_, hC⟩
      rcases List.mem_cons.1 hx with rfl | hx
      · exact hy
      · exact hA x hx
    · refine ⟨[], y :: ys, rfl, by simp, fun x hx => ?_⟩
      rcases List.mem_cons.1 hx with rfl | hx
      · omega
      · have := h1 x hx; omega
theorem visN_split {A C : List Vr} {at_ : Int} (hA : ∀ x ∈ A, x.ba ≤ at_) (hC : ∀ x ∈ C, at_ < x.ba) : aheadN (A ++ C) A.length = visN (A ++ C) at_ := by
  have hf : (A ++ C).filter (fun v => decide (v.ba ≤ at_)) = A := by
    rw [List.filter_append, List.filter_eq_self.2 (fun x hx => by simpa using hA x hx), List.filter_eq_nil_iff.2 (fun x hx => by have := hC x hx; simp; omega), List.append_nil]
  unfold visN aheadN
  rw [hf]
  rcases Nat.eq_zero_or_pos A.length with h0 | h0
  · have : A = [] := List.length_eq_zero_iff.1 h0
    subst this
    rfl
  · have hne : A ≠ [] := List.length_pos_iff.1 h0
    rw [if_neg (by omega), List.getLast?_eq_some_getLast hne]
    simp only
    rw [getElem!_pos _ (A.length - 1) (by simp; omega), List.getElem_append_left (by omega), List.getLast_eq_getElem]
theorem Line.rise {w : World} {c g off cc : Nat} {ys : List Vr} (h : Line w c g off cc ys) : ys.Pairwise (fun a b => a.ba ≤ b.ba) := h.pl.imp (fun {a b} hab => by unfold later at hab; omega)
set_option maxRecDepth 100000 in
set_option maxHeartbeats 1000000 in
theorem visible_any (w : World) (c g off cc : Nat) (ys : List Vr) (at_ : Int) (h : Line w c g off cc ys) :
    Calls Tryz.prog 61 #[ptr c, .int .i64 at_] w fun e w' => e = .returned (.int .i64 (visN ys at_)) ∧ Below w.heap.size w w' := by
  obtain ⟨A, C, rfl, hA, hC⟩ := prefix_of ys at_ h.rise
  have hmf : ∀ (fn : Fn) (first cap : Array Value) (w : World), (Instr.makeFunc fn first cap).run Tryz.prog w = .ok (.func fn first cap) w := fun _ _ _ _ => rfl
  have hc0 := h.chc
  have hcl := blk_lt h.ch
  obtain ⟨W, hW⟩ : ∃ W, W = (w.alloc (.cells #[ptr c] 57)).alloc (.cells #[.int .i64 at_] 3) := ⟨_, rfl⟩
  have HB : Hid (Below w.heap.size w W) := by
    show Below _ _ _
    rw [hW]
    exact ((Below.refl _ _).alloc (Nat.le_refl _) _).alloc (by simp) _
  have k1 : W.cell? ⟨w.heap.size, 0, none⟩ = some (ptr c) := by
    rw [World.cell?, hW, heap_alloc_old _ _ (by simp), heap_alloc_new _ _ rfl]; rfl
  have k2 : W.cell? ⟨w.heap.size + 1, 0, none⟩ = some (.int .i64 at_) := by
    rw [World.cell?, hW, heap_alloc_new _ _ (by simp)]; rfl
  have HL : Hid (Line W c g off cc (A ++ C)) := h.kept HB.out
  have hcW := HL.out.chc
  have HS : Hid (Calls Tryz.prog 77 #[.int .i64 ((A ++ C).length : Int), .func (.func 78) #[] #[ptr w.heap.size, ptr (w.heap.size + 1)]] W fun e w' => e = .returned (.int .i64 (A.length : Int)) ∧ Below W.heap.size W w') := by
    have hs := Any.sort_Search laysSearch 78 #[ptr w.heap.size, ptr (w.heap.size + 1)] (A ++ C).length (fun i => decide (at_ < (A ++ C)[i]!.ba)) W (enters_of Tryz.func78 (by kernel_rfl) rfl) (by have := HL.out.sz; omega)
      (fun m os i hi => by
        have hg : Below W.heap.size W (grow (W.drewN m) os) := below_grown_sl _ W m os (Nat.le_refl _)
        refine (vis1_any _ w.heap.size (w.heap.size + 1) c g off cc (A ++ C) at_ i (HL.out.kept hg) hi ((hg.cell (p := ⟨w.heap.size, 0, none⟩) (by rw [hW]; simp; omega)).trans k1) ((hg.cell (p := ⟨w.heap.size + 1, 0, none⟩) (by rw [hW]; simp)).trans k2)).mono ?_
        rintro e w' ⟨rfl, q, rfl⟩
        exact ⟨rfl, q, #[], by rw [grow_empty]⟩)
      (fun a b hab hb ha => by
        have ha' := of_decide_eq_true ha
        refine decide_eq_true ?_
        by_cases e : a = b
        · rw [← e]; exact ha'
        · have hp := List.pairwise_iff_getElem.1 HL.out.rise a b (by omega) hb (by omega)
          rw [getElem!_pos _ a (by omega)] at ha'
          rw [getElem!_pos _ b hb]
          omega)
    have hcn : (List.range (A ++ C).length).countP (fun i => !(fun i : Nat => decide (at_ < (A ++ C)[i]!.ba)) i) = A.length := by
      refine count_split (f := fun x => !decide (at_ < x.ba)) (fun x hx => ?_) (fun x hx => ?_)
      · have := hA x hx; simp; omega
      · have := hC x hx; simp; omega
    rw [hcn] at hs
    refine Calls.mono hs ?_
    rintro e w' ⟨rfl, q, os, rfl⟩
    exact ⟨rfl, below_grown_sl _ W q os (Nat.le_refl _)⟩
  have HV : Hid (aheadN (A ++ C) A.length = visN (A ++ C) at_) := visN_split hA hC
  have HNA : Hid (∀ W', Below W.heap.size W W' → Calls Tryz.prog 76 #[ptr c, .int .i64 (A.length : Int)] W' fun e w' => e = .returned (.int .i64 (visN (A ++ C) at_)) ∧ w' = W') := fun W' hW' => by
    have := numberAhead_any W' c g off cc (A ++ C) A.length (HL.out.kept hW') (by simp)
    rw [HV.out] at this
    exact this
  have HK1 : Hid (∀ W', Below W.heap.size W W' → W'.cell? ⟨w.heap.size, 0, none⟩ = some (ptr c)) := fun W' hW' => (hW'.cell (p := ⟨w.heap.size, 0, none⟩) (World.block_lt_of_cell? _ _ k1)).trans k1
  clear h hA hC
  generalize (A ++ C).length = m at *
  generalize visN (A ++ C) at_ = res at *
  go_enter Tryz.func61, Tryz.ntmps61
  go_wp2_with fail
  rw [← hW]
  refine HS.out.mono ?_
  rintro e w2 ⟨rfl, hb2⟩
  have k3 := HK1.out w2 hb2
  have HN2 := (fun {p : Prop} (h : p) => (show Hid p from h)) (HNA.out w2 hb2)
  have HB2 : Hid (Below w.heap.size w w2) := HB.out.trans (hb2.mono HB.out.size)
  clear hb2 HS HL HB hW k1 k2 hc0 hcW HNA HK1 HV
  go_wp2_with fail
  refine HN2.out.mono ?_
  rintro e w3 ⟨rfl, hw3⟩
  have hw3' := hw3.symm
  subst hw3'
  clear hw3 HN2
  go_wp2
  go_ret
  exact ⟨rfl, HB2.out⟩
set_option maxRecDepth 100000 in
set_option maxHeartbeats 1000000 in
theorem visibleS_any (w : World) (S V D M L P : Nat) (hf : Value) (cap last : Int) (vs : List Vr) (es : List En) (R : K → Nat × Nat × Nat) (k1 k2 at_ : Int) (h : SA w S V D M L P hf cap last vs es R) (hk : KIn (k1, k2)) :
    Calls Tryz.prog 26 #[ptr S, .agg #[.int .i64 k1, .int .i64 k2], .int .i64 at_] w fun e w' => e = .returned (.int .i64 (visN (ofK (k1, k2) vs) at_)) ∧ Below w.heap.size w w' := by
  obtain ⟨W, hW⟩ : ∃ W, W = w.alloc (.cells #[.int .i64 k1, .int .i64 k2] 41) := ⟨_, rfl⟩
  have HB : Hid (Below w.heap.size w W) := by
    show Below _ _ _
    rw [hW]
    exact (Below.refl _ _).alloc (Nat.le_refl _) _
  have hx : W.heap[w.heap.size]? = some (.cells #[.int .i64 k1, .int .i64 k2] 41 (0, 0)) := by rw [hW]; exact heap_alloc_new _ _ rfl
  have HS : Hid (SA W S V D M L P hf cap last vs es R) := h.kept HB.out
  have HKn : Hid (∀ U, Below W.heap.size W U → U.cell? ⟨S, 4, none⟩ = some (ptr D) ∧ U.cell? ⟨w.heap.size, 0, none⟩ = some (.int .i64 k1) ∧ U.cell? ⟨w.heap.size, 1, none⟩ = some (.int .i64 k2)) := fun U hU => by
    have q := (hU.block _ (blk_lt hx)).trans hx
    refine ⟨(HS.out.kept hU).cells.2.2.2.2, ?_, ?_⟩ <;> simp [World.cell?, q]
  have HG : Hid (Calls Tryz.prog 59 #[ptr D, .agg #[.int .i64 k1, .int .i64 k2]] W.drew fun e w' => e = .returned (.tuple #[vv (fd es (k1, k2)), .bool (fd es (k1, k2)).isSome]) ∧ Below W.heap.size W w') := by
    have hd : Below W.heap.size W W.drew := ⟨rfl, rfl, rfl, Nat.le_refl _, fun _ _ => rfl⟩
    exact (get_any W.drew D M L P hf es (k1, k2) (HS.out.da.kept hd) hk).mono fun e w' ⟨h1, h2⟩ => ⟨h1, hd.trans h2⟩
  obtain ⟨c4, b0, b1⟩ := HKn.out W (Below.refl _ _)
  clear h hx
  go_enter Tryz.func26, Tryz.ntmps26
  go_wp2_with fail
  rw [← hW]
  clear hW
  go_region_held3 (fun w' => w'.cell? ⟨S, 4, none⟩ = some (ptr D) ∧ w'.cell? ⟨w.heap.size, 0, none⟩ = some (.int .i64 k1) ∧ w'.cell? ⟨w.heap.size, 1, none⟩ = some (.int .i64 k2)) (first | exact HKn.out _ HB3.out | go_keep) (first | (go_at_call 59; refine HG.out.mono ?_; rintro e w3 ⟨rfl, hb3⟩; have HB3 : Hid (Below W.heap.size W w3) := hb3; clear hb3))
  clear c4 b0 b1 HG HKn
  have HBw : Hid (Below w.heap.size w w3) := HB.out.trans (HB3.out.mono HB.out.size)
  cases hfd : fd es (k1, k2) with
  | none =>
    have hof := HS.out.none_of hfd
    have HE : Hid (visN (ofK (k1, k2) vs) at_ = 0) := by show _ = _; rw [hof]; rfl
    simp only [vv, Option.isSome]
    clear hfd hof
    go_wp2
    go_ret
    exact ⟨by rw [HE.out]; rfl, HBw.out⟩
  | some e0 =>
    obtain ⟨he0, hk0⟩ := fd_some hfd
    have hl := (HS.out.kept HB3.out).line he0
    rw [hk0] at hl
    have HNw := visible_any w3 e0.v (R (k1, k2)).1 (R (k1, k2)).2.1 (R (k1, k2)).2.2 (ofK (k1, k2) vs) at_ hl
    obtain ⟨res, hres⟩ : ∃ res, res = visN (ofK (k1, k2) vs) at_ := ⟨_, rfl⟩
    have HE : Hid (visN (ofK (k1, k2) vs) at_ = res) := hres.symm
    rw [← hres] at HNw
    clear hres
    simp only [vv, Option.isSome]
    clear hfd he0 hk0 hl
    go_wp2_with fail
    refine HNw.mono ?_
    clear HNw
    rintro e w4 ⟨rfl, hb4⟩
    have HB4 : Hid (Below w.heap.size w w4) := HBw.out.trans (hb4.mono HBw.out.size)
    clear HB3 HS hb4
    go_wp2
    go_ret
    exact ⟨by rw [HE.out]; rfl, HB4.out⟩
theorem visible_st (n0 : Nat) (F : Nat → Prop) (w : World) (S P : Nat) (cap last : Int) (vs : List Vr) (h : ST n0 F w S P cap last vs) (k1 k2 at_ : Int) (hk : KIn (k1, k2)) :
    Calls Tryz.prog 26 #[ptr S, .agg #[.int .i64 k1, .int .i64 k2], .int .i64 at_] w fun e w' => e = .returned (.int .i64 (visN (ofK (k1, k2) vs) at_)) ∧ Below w.heap.size w w' := by
  obtain ⟨V, D, M, L, es, R, h1, h2⟩ := h
  exact visibleS_any w S V D M L P _ cap last vs es R k1 k2 at_ h1 hk
end Go.Proofs.YtbcmmeajglilbaaGreat
