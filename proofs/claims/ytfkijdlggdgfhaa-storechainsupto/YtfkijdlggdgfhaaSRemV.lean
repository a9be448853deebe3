/-
  Remove.
-/
import Derived.Test.YtfkijdlggdgfhaaSRemW
namespace Go.Proofs.Ytfkijdlggdgfhaa
open Go.RowKit Go.Sort

theorem fv_split {vs : List Vr} {n : Int} {v : Vr} (h : fv vs n = some v) : ∃ A C, vs = A ++ v :: C := List.append_of_mem (fv_some h).1
theorem split_uniqV {A A' C C' : List Vr} {t : Vr} (hn : ((A ++ t :: C).map Vr.n).Nodup) (h : A ++ t :: C = A' ++ t :: C') : A' = A ∧ C' = C := by
  have h1 := (nodup_split hn).1
  rw [h] at hn
  have h2 := (nodup_split hn).1
  induction A generalizing A' with
  | nil =>
    cases A' with
    | nil => simp at h; exact ⟨rfl, h.symm⟩
    | cons a A' => simp at h; exact absurd (h.1 ▸ rfl) (h2 a (by simp))
  | cons b A ih =>
    cases A' with
    | nil => simp at h; exact absurd (h.1 ▸ rfl) (h1 b (by simp))
    | cons a A' =>
      simp at h
      obtain ⟨rfl, h⟩ := h
      have hn' : ((A' ++ t :: C').map Vr.n).Nodup := by
        rw [List.cons_append, List.map_cons] at hn
        exact (List.nodup_cons.1 hn).2
      obtain ⟨h3, h4⟩ := ih hn' h (fun x hx => h1 x (by simp [hx])) (fun x hx => h2 x (by simp [hx]))
      exact ⟨by rw [h3], h4⟩
set_option maxRecDepth 100000 in
set_option maxHeartbeats 2000000 in
theorem remove_any (w : World) (S V D M L P : Nat) (hf : Value) (cap last : Int) (vs : List Vr) (es : List En) (R : K → Nat × Nat × Nat) (n : Int) (h : SA w S V D M L P hf cap last vs es R) (hn : In64 n) :
    Calls Try.prog 20 #[ptr S, .int .i64 n] w fun e w' => RemPost w S V D M L P hf cap last vs es R n e w' := by
  have c3 := h.cells.2.2.2.1
  have hl := h.look hn
  have HS : Hid (SA w S V D M L P hf cap last vs es R) := h
  clear h
  cases hc : fv vs n with
  | none =>
    rw [hc] at hl
    simp only [pf] at hl
    have HN : Hid (fv vs n = none) := hc
    clear hc
    go_enter Try.func20, Try.ntmps20
    go_wp2
    go_ret
    exact .inl ⟨HN.out, rfl, rfl⟩
  | some v =>
    rw [hc] at hl
    obtain ⟨hv, hvn⟩ := fv_some hc
    obtain ⟨ms, clock, hm1, hm2⟩ := HS.out.vm
    obtain ⟨A, C, ms', hsp, hdel0, hdm⟩ := vm_del hm1 HS.out.nums.1 hm2 HS.out.nums.2 hv 0
    obtain ⟨e0, he0, hk0, hfd⟩ := HS.out.find hv
    have HV : Hid (vs = A ++ v :: C ∧ v.n = n ∧ v ∈ vs) := ⟨hsp, hvn, hv⟩
    have HE : Hid (e0 ∈ es ∧ e0.k = v.k ∧ fd es v.k = some e0) := ⟨he0, hk0, hfd⟩
    simp only [pf] at hl
    clear hc hm1 hm2 hdel0 hdm hsp hvn hv he0 hk0 hfd
    have HCo := chainOf_any w S V D M L P hf cap last vs es R v HS.out HV.out.2.2 e0 HE.out.2.2
    go_enter Try.func20, Try.ntmps20
    go_wp2_with fail
    refine HCo.mono ?_
    clear HCo
    rintro e w1 ⟨rfl, hb1⟩
    have HB1 : Hid (Below w.heap.size w w1) := hb1
    have HL1 : Hid (Line w1 e0.v (R v.k).1 (R v.k).2.1 (R v.k).2.2 (ofK v.k A ++ v :: ofK v.k C)) := by
      have h1 := (HS.out.kept hb1).line HE.out.1
      rw [HE.out.2.1, HV.out.1, ofK_mid] at h1
      exact h1
    have HDr := drop_any w1 e0.v (R v.k).1 (R v.k).2.1 (R v.k).2.2 (ofK v.k A) (ofK v.k C) v HL1.out
    clear hb1 c3 hl
    go_wp2_with fail
    refine HDr.mono ?_
    clear HDr
    rintro e w2 ⟨rfl, off, cc, hd⟩
    rw [← ofK_app] at hd
    have HD : Hid (Drp w1 w2 e0.v (R v.k).1 off cc ((ofK v.k (A ++ C)).map Vr.b)) := hd
    have x0 : w2.cell? ⟨e0.v, 0, none⟩ = some (.slice (some ⟨(R v.k).1, off, none⟩) ((ofK v.k (A ++ C)).map Vr.b).length cc) := by rw [World.cell?, hd.ch]; rfl
    rw [List.length_map] at x0
    obtain ⟨m, hm⟩ : ∃ m, m = (ofK v.k (A ++ C)).length := ⟨_, rfl⟩
    rw [← hm] at x0
    have HM : Hid (m = (ofK v.k (A ++ C)).length) := hm
    have HS' : Hid (SA w S V D M L P hf cap last (A ++ v :: C) es R) := by have := HS.out; rw [HV.out.1] at this; exact this
    clear hd hm HL1
    go_upto_if 26 with fail
    go_cut [] (fun wx => ∃ es', Hid (Gone w wx S V D M L P hf A C v es es' R off cc))
    case first =>
      by_cases hm0 : m = 0
      · subst hm0
        have hnil : ofK v.k (A ++ C) = [] := List.length_eq_zero_iff.1 HM.out.symm
        have HDp : Hid (DA w2 D M L hf P es ∧ w2.heap[S]? = w.heap[S]? ∧ w2.heap[v.b]? = w.heap[v.b]?) := by
          have hd := HS'.out.dropped HE.out.1 HE.out.2.1 HB1.out HD.out
          exact ⟨hd.1, hd.2.2.1, hd.2.2.2.2.1 v (by simp)⟩
        have HTk : Hid (Calls Try.prog 41 #[ptr D, .agg #[.int .i64 v.k.1, .int .i64 v.k.2]] w2.drew fun e w' => e = .returned (.tuple #[ptr e0.v, .bool true]) ∧ (∃ A C, es = A ++ e0 :: C ∧ DA w' D M L hf P (A ++ C)) ∧ Fr (Ft M L es) w2 w') := by
          have hd : DA w2.drew D M L hf P es := HDp.out.1.same (fun _ _ => rfl)
          refine (take_some w2.drew D M L P hf es v.k hd (HS.out.inn v HV.out.2.2).1 e0 HE.out.2.2 (by have := HS.out.el; have := HS.out.lt; omega)).mono fun e w' ⟨h1, h2, h3⟩ => ⟨h1, h2, ⟨h3.os, h3.tape, h3.output, h3.size, h3.block⟩⟩
        have HNl : Hid (ofK v.k (A ++ C) = []) := hnil
        have HCl : Hid (∀ W : World, W.heap[S]? = w.heap[S]? → W.heap[v.b]? = w.heap[v.b]? → W.cell? ⟨S, 4, none⟩ = some (ptr D) ∧ W.cell? ⟨v.b, 3, none⟩ = some (.int .i64 v.k.1) ∧ W.cell? ⟨v.b, 4, none⟩ = some (.int .i64 v.k.2)) := fun W x1 x2 => by
          have q1 := HS.out.st
          have q2 := HS.out.vb v HV.out.2.2
          rw [← x1] at q1
          rw [← x2] at q2
          refine ⟨?_, ?_, ?_⟩ <;> simp [World.cell?, q1, q2, cellsV]
        obtain ⟨s4, b3, b4⟩ := HCl.out w2 HDp.out.2.1 HDp.out.2.2
        have HSv : Hid (¬ Ft M L es S ∧ ¬ Ft M L es v.b ∧ S < w2.heap.size ∧ v.b < w2.heap.size) := by
          refine ⟨fun hF => (HS.out.dict_ne (.inr hF)).2.2.2.1 rfl, fun hF => (HS.out.dict_ne (.inr hF)).2.2.1 v HV.out.2.2 rfl, ?_, ?_⟩
          · exact blk_lt (HDp.out.2.1.trans HS.out.st)
          · exact blk_lt (HDp.out.2.2.trans (HS.out.vb v HV.out.2.2))
        clear hnil
        generalize hk1 : v.k.1 = k1 at *
        generalize hk2 : v.k.2 = k2 at *
        clear hk1 hk2
        go_upto_region 7 with fail
        go_region_held3 (fun w' => w'.cell? ⟨S, 4, none⟩ = some (ptr D) ∧ w'.cell? ⟨v.b, 3, none⟩ = some (.int .i64 k1) ∧ w'.cell? ⟨v.b, 4, none⟩ = some (.int .i64 k2)) (first | with_reducible exact HX3.out.2 | go_keep) (first | (go_at_call 41; refine HTk.out.mono ?_; rintro e w3 ⟨rfl, ⟨A1, C1, hes, hda⟩, hf3⟩; have HX3 : Hid (Gone w w3 S V D M L P hf A C v es (A1 ++ C1) R off cc ∧ (w3.cell? ⟨S, 4, none⟩ = some (ptr D) ∧ w3.cell? ⟨v.b, 3, none⟩ = some (.int .i64 k1) ∧ w3.cell? ⟨v.b, 4, none⟩ = some (.int .i64 k2))) := ⟨HS'.out.gone2 hes HE.out.2.1 HB1.out HD.out HNl.out hda hf3, HCl.out _ ((hf3.block _ HSv.out.2.2.1 HSv.out.1).trans HDp.out.2.1) ((hf3.block _ HSv.out.2.2.2 HSv.out.2.1).trans HDp.out.2.2)⟩; clear hes hda hf3))
        go_wp2
        go_meet
        exact ⟨A1 ++ C1, HX3.out.1⟩
      · have hm1 : ¬ (m : Int) = 0 := by omega
        have hm2 : ((m : Int) == 0) = false := by simpa using hm1
        have HG : Hid (Gone w w2 S V D M L P hf A C v es es R off cc) := HS'.out.gone1 HE.out.1 HE.out.2.1 HB1.out HD.out (fun e => hm0 (by rw [HM.out, e]; rfl))
        go_wp2
        go_meet
        exact ⟨es, HG⟩
    case rest =>
      obtain ⟨es', HG⟩ := hcut
      obtain ⟨ms, clock, hm1, hm2⟩ := HS'.out.vm
      have hvV : wc.heap[V]? = some (.map ms clock) := HG.out.vm.trans hm1
      have hs3 : wc.cell? ⟨S, 3, none⟩ = some (.map (some V)) := by rw [World.cell?, HG.out.st, HS'.out.st]; rfl
      obtain ⟨A2, C2, ms', h1, hdl, h3⟩ := vm_del hvV HS'.out.nums.1 hm2 HS'.out.nums.2 (e := v) (by simp) 0
      rw [HV.out.2.1] at hdl
      obtain ⟨rfl, rfl⟩ := split_uniqV HS'.out.nums.2 h1
      have HFn : Hid (SA (ChangeMaps.setBlock wc V (.map ms' clock)) S V D M L P hf cap last (A2 ++ C2) es' (fun k => if k = v.k then ((R v.k).1, off, cc) else R k) ∧ Fr (Fs S V D M L (A2 ++ v :: C2) es R) w (ChangeMaps.setBlock wc V (.map ms' clock)) ∧ ∀ k', Fs S V D M L (A2 ++ C2) es' (fun k => if k = v.k then ((R v.k).1, off, cc) else R k) k' → Fs S V D M L (A2 ++ v :: C2) es R k') :=
        HG.out.fin HS'.out ⟨_, _, ChangeMaps.heap_setBlock_same hvV _, h3⟩ (fun k hk => ChangeMaps.heap_setBlock_other hvV _ hk) ⟨rfl, rfl, rfl, by simp [ChangeMaps.setBlock]⟩
      clear h1 h3 hm1 hm2 hvV
      go_wp2
      go_ret
      refine .inr ⟨A2, v, C2, es', _, HV.out.1, HV.out.2.1, rfl, HFn.out.1, ?_⟩
      rw [HV.out.1]
      exact HFn.out.2
end Go.Proofs.Ytfkijdlggdgfhaa
