import Derived.Test.YtbpgafchagpmoaaJXROth
import Derived.Deep.DeepCutAuto
/-
  THE WALK OF THE DOCUMENT's Step.
-/
namespace Go.Proofs.Ytbpgafchagpmoaa
open Go.RowKit Go.Sort

theorem sim_any (op : Int) (h : simB op = true) : SimOK op (.string (nmOf op)) := by
  have : op = 1 ∨ op = 2 ∨ op = 3 ∨ op = 4 ∨ op = 5 ∨ op = 6 ∨ op = 7 ∨ op = 8 ∨ op = 20 ∨ op = 21 ∨ op = 30 ∨ op = 31 := by
    simp only [simB, Bool.or_eq_true, decide_eq_true_eq, beq_iff_eq] at h; omega
  rcases this with rfl | rfl | rfl | rfl | rfl | rfl | rfl | rfl | rfl | rfl | rfl | rfl
  · exact sim1
  · exact sim2
  · exact sim3
  · exact sim4
  · exact sim5
  · exact sim6
  · exact sim7
  · exact sim8
  · exact sim20
  · exact sim21
  · exact sim30
  · exact sim31
theorem oth_ops {op : Int} (h : simB op = false) (ho : isOpB op = true) (h0 : op ≠ 0) : op = 9 ∨ op = 10 ∨ op = 11 ∨ op = 12 ∨ op = 13 ∨ op = 14 ∨ op = 15 ∨ op = 16 ∨ op = 17 ∨ op = 18 ∨ op = 19 ∨ op = 22 ∨ op = 23 ∨ op = 24 ∨ op = 25 ∨ op = 26 ∨ op = 27 ∨ op = 28 ∨ op = 29 ∨ op = 32 ∨ op = 33 ∨ op = 34 ∨ op = 35 ∨ op = 36 := by
  simp only [simB, Bool.or_eq_false_iff, decide_eq_false_iff_not, beq_eq_false_iff_ne, ne_eq] at h
  simp only [isOpB, Bool.and_eq_true, decide_eq_true_eq] at ho
  omega
theorem nosim_any (op : Int) (h : simB op = false) (ho : isOpB op = true) (h0 : op ≠ 0) : NoSim (.string (nmOf op)) := by
  rcases oth_ops h ho h0 with rfl | rfl | rfl | rfl | rfl | rfl | rfl | rfl | rfl | rfl | rfl | rfl | rfl | rfl | rfl | rfl | rfl | rfl | rfl | rfl | rfl | rfl | rfl | rfl
  · exact nosim9
  · exact nosim10
  · exact nosim11
  · exact nosim12
  · exact nosim13
  · exact nosim14
  · exact nosim15
  · exact nosim16
  · exact nosim17
  · exact nosim18
  · exact nosim19
  · exact nosim22
  · exact nosim23
  · exact nosim24
  · exact nosim25
  · exact nosim26
  · exact nosim27
  · exact nosim28
  · exact nosim29
  · exact nosim32
  · exact nosim33
  · exact nosim34
  · exact nosim35
  · exact nosim36
theorem oth_any (op : Int) (h : simB op = false) (ho : isOpB op = true) (h0 : op ≠ 0) : OthOK op (.string (nmOf op)) := by
  rcases oth_ops h ho h0 with rfl | rfl | rfl | rfl | rfl | rfl | rfl | rfl | rfl | rfl | rfl | rfl | rfl | rfl | rfl | rfl | rfl | rfl | rfl | rfl | rfl | rfl | rfl | rfl
  · exact oth9
  · exact oth10
  · exact oth11
  · exact oth12
  · exact oth13
  · exact oth14
  · exact oth15
  · exact oth16
  · exact oth17
  · exact oth18
  · exact oth19
  · exact oth22
  · exact oth23
  · exact oth24
  · exact oth25
  · exact oth26
  · exact oth27
  · exact oth28
  · exact oth29
  · exact oth32
  · exact oth33
  · exact oth34
  · exact oth35
  · exact oth36
theorem nm_stop {op : Int} (ho : isOpB op = true) (h0 : op ≠ 0) : ((nmOf op).toList == ([115, 116, 111, 112] : List UInt8)) = false := by
  have : ∀ j : Nat, j < 37 → j ≠ 0 → ((nmOf (j : Int)).data.toList == ([115, 116, 111, 112] : List UInt8)) = false := by decide +kernel
  simp only [isOpB, Bool.and_eq_true, decide_eq_true_eq] at ho
  obtain ⟨j, rfl⟩ := Int.eq_ofNat_of_zero_le ho.1
  rw [ByteArray.toList_eq]
  exact this j (by omega) (by omega)
/-- a stage of Step -/
structure RS (w w1 : World) (F : Nat → Prop) (B : Nat) (c : MC) (L : List K) (A : List Int) (R : List C) (a : Int) (m : M) : Prop where
  mrt : MRt w1 (FB F w) B c m
  giv : Giv w1 (FB F w) c L A R
  fr : Fr F w w1
  d1 : w1.cell? ⟨w.heap.size, 1, none⟩ = some (.int .i64 a)
section
variable {w w1 w2 : World} {F : Nat → Prop} {B : Nat} {c : MC} {L : List K} {A : List Int} {R : List C} {a : Int} {m m' : M}
theorem RS.next (h : RS w w1 F B c L A R a m) (hm : MRt w2 (FB F w) B c m') (hf : Fr (FB F w) w1 w2) : RS w w2 F B c L A R a m' :=
  ⟨hm, h.giv.next hf, h.fr.trans (hf.mono fun _ hk => .inl hk), hf.cell (.inr rfl) h.d1⟩
theorem Giv.mono {F G : Nat → Prop} (h : Giv w F c L A R) (hg : ∀ k, F k → G k) : Giv w G c L A R :=
  ⟨h.keys, h.ln, h.args, h.la, h.reads, h.lr, fun hx g e => hg _ (h.fk hx g e), fun hx g e => hg _ (h.fa hx g e), fun hx g e => hg _ (h.fr hx g e)⟩
theorem Fr.drawn (F : Nat → Prop) (w : World) : Fr F w w.drew := ⟨rfl, rfl, rfl, Nat.le_refl _, fun _ _ => rfl⟩
theorem MRt.drew (x : MRt w F B c m) : MRt w.drew F B c m := (x.kept (w1 := w.drew) ⟨rfl, rfl, rfl, Nat.le_refl _, fun _ _ => rfl⟩).1
theorem RS.start (hm : MRt w F B c m) (hv : Giv w F c L A R) (op a : Int) : RS w (wb w op a).drew F B c L A R a m := by
  have hb : Go.RowKit.Below w.heap.size w (wb w op a) := (Below.refl _ _).alloc (Nat.le_refl _) _
  have hf : Fr F w (wb w op a) := (hm.kept hb).2
  exact ⟨(hm.add _).drew, ((hv.next hf).mono fun _ hk => .inl hk).next (Fr.drawn _ _), hf.trans (Fr.drawn _ _), (Box.new (w := w) (x := op) (y := a) rfl).2⟩
theorem RS.end (h : RS w w1 F B c L A R a m) : MRt w1 F B c m ∧ Fr F w w1 := ⟨h.mrt.mono fun _ hk => .inl hk, h.fr⟩
theorem RS.put (h : RS w w1 F B c L A R a m) (i : Nat) (v : Value) (m' : M) (hb : ∀ h, (rbox c h m).setIfInBounds i v = rbox c h m') (hs : m'.st = m.st) (hl : m'.lo = m.lo) (ho : m'.ou = m.ou) (hp : m'.pu = m.pu) : RS w (w1.setCell ⟨B, i, none⟩ v) F B c L A R a m' :=
  h.next (h.mrt.put i v m' hb hs hl ho hp).2.1 (h.mrt.put i v m' hb hs hl ho hp).2.2
theorem RS.below (h : RS w w1 F B c L A R a m) (hb : Go.RowKit.Below w1.heap.size w1 w2) : RS w w2 F B c L A R a m :=
  h.next (h.mrt.kept hb).1 (h.mrt.kept hb).2
theorem RS.lay (h : RS w w1 F B c L A R a m) : w1.cell? ⟨B, 4, none⟩ = some (.slice c.ao c.n c.cap) := h.mrt.nums.2.2.1
end
/-- the document's Done behind a step that goes on -/
theorem dnM_on {n : Nat} {m : M} (he : m.ended = false) : dnM n m = { m with ended := decide (m.at_ = n) } := by
  unfold dnM doneB; rw [he]; rfl
theorem dnM_stop {n : Nat} {m : M} (he : m.ended = true) : dnM n m = m := by
  unfold dnM doneB; rw [he]
  obtain ⟨at_, st, lo, ou, pu, en, fa, us, sp⟩ := m
  simp only at he
  rw [he]; rfl
theorem fit_r {p : Nums} {L : List K} {d : List Int} {A : List Int} {R : List C} {m : M} (hs : Sound p L d) (hg : Good p L d m) (hf : Fed p A R) {i : Nat} (hi : i < L.length) : fitR A R (ahead m) (cd L i).1 (cd L i).2 := by
  refine ⟨fit_of hs hg hf hi, fun e => ?_, fun e => ?_⟩
  · obtain ⟨_, _, h⟩ := hs.fits hi
    have hl := (limB_iff p L.length).1 hs.lim
    have h2 := hf.2
    generalize cd L i = k at *
    obtain ⟨op, a⟩ := k
    simp only at e
    subst e
    simp only [fitsB, roomN, Bool.or_eq_true, decide_eq_true_eq, Bool.and_eq_true] at h
    simp at h
    omega
  · obtain ⟨_, h, _⟩ := hs.fits hi
    have := h (by rcases e with e | e <;> rw [e] <;> rfl)
    omega
set_option maxRecDepth 100000 in
set_option maxHeartbeats 2000000 in
theorem rstep_any (w : World) (F : Nat → Prop) (B : Nat) (c : MC) (p : Nums) (L : List K) (d : List Int) (A : List Int) (R : List C) (m : M) (hm : MRt w F B c (dnM L.length m)) (hv : Giv w F c L A R) (hs : Sound p L d) (hg : Good p L d m) (hf : Fed p A R) (hp : c.p = p) (hx : Fits m) :
    Calls Try.prog 27 #[pm B] w fun e w' => e = .returned (.bool (!doneB L.length m)) ∧ MRt w' F B c (dnM L.length (stepN L A R m)) ∧ Fr F w w' := by
  cases hd : doneB L.length m with
  | true =>
    have HE : Hid (stepN L A R m = m) := by show stepN L A R m = m; unfold stepN; rw [if_pos hd]
    have HM : Hid (MRt w F B c (dnM L.length m)) := hm
    obtain ⟨_, _, c13, _, _⟩ := hm.cells
    rw [show (dnM L.length m).ended = doneB L.length m from rfl, hd] at c13
    clear hm hv hs hg hf hp hx hd
    go_enter Try.func27, Try.ntmps27
    go_wp2
    go_ret
    exact ⟨rfl, by rw [HE.out]; exact HM.out, Fr.refl _ _⟩
  | false =>
    rw [dnM_live hd] at hm
    have hen : m.ended = false := by unfold doneB at hd; simp only [Bool.or_eq_false_iff] at hd; exact hd.1
    have hat : m.at_ < L.length := by
      unfold doneB at hd; simp only [Bool.or_eq_false_iff, decide_eq_false_iff_not] at hd
      have := hg.pl; omega
    have hn256 : L.length ≤ 256 := ((limB_iff p L.length).1 hs.lim).2.2.2.2
    obtain ⟨nl, hnl⟩ : ∃ nl : Nat, nl = p.locals.toNat := ⟨_, rfl⟩
    obtain ⟨np, hnp⟩ : ∃ np : Nat, np = p.writes.toNat := ⟨_, rfl⟩
    have HNL : Hid (c.p.locals = (nl : Int) ∧ c.p.writes = (np : Int) ∧ nl ≤ 16 ∧ np ≤ 16 ∧ m.lo.length = nl ∧ m.pu.length = np) := by
      obtain ⟨l1, l2, l3, l4, l5⟩ := (limB_iff p L.length).1 hs.lim
      have h1 := hg.lo
      have h2 := hg.pu
      rw [hp]
      exact ⟨by omega, by omega, by omega, by omega, by omega, by omega⟩
    have hst := Good.takes hs hg hen hat
    have hfit := fit_r hs hg hf hat
    obtain ⟨hop, hjmp, _⟩ := hs.fits hat
    have hst32 := hg.st
    have hou := hg.ou
    have hsteps : m.steps ≤ 256 := by
      obtain ⟨_, _, _, h4⟩ := hg.live hen
      have h5 := most_nonneg hs.sane m.at_ (by omega)
      have h6 := most_few L hs.sane L.length (Nat.le_refl _) 0 (by rw [most_length]; omega)
      omega
    have HUs : Hid (m.user = 0) := (hg.live hen).2.2.1
    have HDn : Hid (doneB L.length m = false) := hd
    have HEn : Hid (m.ended = false) := hen
    have HX : Hid (In64 m.top ∧ In64 m.pop.top) := ⟨top_in hx, top_in hx.pop⟩
    have HSim : Hid (simB (cd L m.at_).1 = true → smpN A R (cd L m.at_).1 (cd L m.at_).2 (ahead m) = stepN L A R m) := fun h => step_sim hd h hfit.2.1
    have HOth : Hid (simB (cd L m.at_).1 = false → (cd L m.at_).1 ≠ 0 → _) := fun h h0 => step_oth (A := A) (R := R) hd h h0
    have HStop : Hid ((cd L m.at_).1 = 0 → stepN L A R m = { tick m with ended := true }) := fun h0 => by unfold stepN; rw [if_neg (by rw [hd]; simp), if_pos h0]
    have HCom : Hid ((cd L m.at_).1 ≠ 0 → (cd L m.at_).1 ≠ 30 → (cd L m.at_).1 ≠ 31 → Com (tick m) (doN A R (cd L m.at_).1 (cd L m.at_).2 (tick m)).1) := fun h0 h30 h31 => (do_good (A := A) (R := R) (a := (cd L m.at_).2) (m := tick m) hop h0 h30 h31 hst hou).1
    have HO : Hid (isOpB (cd L m.at_).1 = true) := hop
    have HTk : Hid (takesN (cd L m.at_).1 ≤ (m.st.length : Int)) := hst
    have HFt : Hid (fitR A R (ahead m) (cd L m.at_).1 (cd L m.at_).2) := hfit
    have HL : Hid (m.st.length ≤ 100 ∧ m.ou.length ≤ 100) := ⟨by omega, by omega⟩
    obtain ⟨c11, c12, c13, _, _⟩ := hm.cells
    rw [hen] at c13
    obtain ⟨_, _, c4, _, _⟩ := hm.nums
    have hk := hv.keys
    rcases hk with hk | ⟨kb, ko, hao, hk⟩
    · rw [hk] at hat; simp at hat
    obtain ⟨k0, k1⟩ := KeysAt.at hk m.at_ hat
    have e1 : kd L m.at_ = cd L m.at_ := rfl
    rw [e1] at k0 k1
    rw [hao, hv.ln] at c4
    have HM0 : Hid (MRt w F B c m ∧ Giv w F c L A R) := ⟨hm, hv⟩
    clear hm hv hs hg hf hp hx hd hen hst hfit hop hjmp hst32 hou hk e1 hao
    generalize (cd L m.at_).1 = op at *
    generalize (cd L m.at_).2 = a at *
    obtain ⟨n, hn⟩ : ∃ n, n = L.length := ⟨_, rfl⟩
    rw [← hn] at c4 hat hn256
    have HN : Hid (c.n = n) := by show c.n = n; rw [hn]; exact HM0.out.2.ln
    have HNn : Hid (n = L.length) := hn
    clear hn
    have y0 := Lib.cell?_alloc_some (.cells #[.int .i64 0, .int .i64 0] 66) c4
    have y3 := Lib.cell?_alloc_some (.cells #[.int .i64 0, .int .i64 0] 66) c11
    have z0 := Lib.cell?_alloc_some (.cells #[.int .i64 0, .int .i64 0] 66) k0
    have z1 := Lib.cell?_alloc_some (.cells #[.int .i64 0, .int .i64 0] 66) k1
    go_enter Try.func27, Try.ntmps27
    go_upto_region 3 with fail
    go_cut [3] (fun s wx => s = .pointer (some ⟨w.heap.size, 0, none⟩) ∧ wx = (wb w op a).drew)
    case first =>
      go_region
      all_goals (go_wp2_with fail; go_meet; exact ⟨rfl, rfl⟩)
    case rest =>
      obtain ⟨rfl, rfl⟩ := hcut
      have HD : Hid (RS w (wb w op a).drew F B c L A R a m) := RS.start HM0.out.1 HM0.out.2 op a
      have d0 : (wb w op a).drew.cell? ⟨w.heap.size, 0, none⟩ = some (.int .i64 op) := (Box.new (w := w) (x := op) (y := a) rfl).1
      clear y0 y3 z0 z1 c4 c11 c12 c13 k0 k1
      obtain ⟨_, c12, _⟩ := HD.out.mrt.cells
      have f12 := HD.out.mrt.froz 12
      have HD2 : Hid (RS w ((wb w op a).drew.setCell ⟨B, 12, none⟩ (.int .i64 ((m.steps : Int) + 1))) F B c L A R a (tick m)) := HD.out.put 12 _ _ (fun _ => rfl) rfl rfl rfl rfl
      have d0' : ((wb w op a).drew.setCell ⟨B, 12, none⟩ (.int .i64 ((m.steps : Int) + 1))).cell? ⟨w.heap.size, 0, none⟩ = some (.int .i64 op) := (HD.out.mrt.put 12 (.int .i64 ((m.steps : Int) + 1)) (tick m) (fun _ => rfl) rfl rfl rfl rfl).2.2.cell (.inr rfl) d0
      generalize (wb w op a).drew = W3 at *
      go_upto_region 5 with fail
      clear c12 f12 HD d0
      generalize W3.setCell ⟨B, 12, none⟩ (.int .i64 ((m.steps : Int) + 1)) = W4 at *
      have HB : Hid (∃ b, b = w.heap.size) := ⟨_, rfl⟩
      go_wp2_with fail
      refine (refSpell_any W4 op).mono ?_
      rintro e W5 ⟨rfl, hb5⟩
      have HD5 : Hid (RS w W5 F B c L A R a (tick m)) := HD2.out.below hb5
      rw [spellS_op HO.out]
      clear hb5 HD2 d0'
      by_cases h0 : op = 0
      · subst h0
        rw [show nmOf 0 = (⟨#[115, 116, 111, 112]⟩ : ByteArray) from rfl]
        obtain ⟨_, _, c13, _, _⟩ := HD5.out.mrt.cells
        have f13 := HD5.out.mrt.froz 13
        have HE : Hid (dnM L.length (stepN L A R m) = { tick m with ended := true }) := by
          show dnM L.length (stepN L A R m) = _
          rw [HStop.out rfl]; exact dnM_stop rfl
        have HY : Hid (RS w (W5.setCell ⟨B, 13, none⟩ (.bool true)) F B c L A R a { tick m with ended := true }) := HD5.out.put 13 _ _ (fun _ => rfl) rfl rfl rfl rfl
        go_wp2
        go_ret
        exact ⟨rfl, by rw [HE.out]; exact HY.out.end.1, HY.out.end.2⟩
      · have hne := nm_stop HO.out h0
        have c11' : W5.cell? ⟨B, 11, none⟩ = some (.int .i64 (m.at_ : Int)) := HD5.out.mrt.cells.1
        have f11 := HD5.out.mrt.froz 11
        have HD6 : Hid (RS w (W5.setCell ⟨B, 11, none⟩ (.int .i64 ((m.at_ : Int) + 1))) F B c L A R a (ahead m)) := HD5.out.put 11 _ _ (fun _ => rfl) rfl rfl rfl rfl
        go_upto_region 10 with fail
        clear c11' f11 HD5
        generalize W5.setCell ⟨B, 11, none⟩ (.int .i64 ((m.at_ : Int) + 1)) = V6 at *
        have d1 := HD6.out.d1
        cases hsim : simB op with
        | true =>
          have HS := sim_any op hsim V6 (FB F w) B c L A R (ahead m) a HD6.out.mrt HD6.out.giv HTk.out HL.out.1 HFt.out
          rw [HSim.out hsim] at HS
          have HEd : Hid ((stepN L A R m).ended = false) := by
            show (stepN L A R m).ended = false
            rw [← HSim.out hsim]
            have h3 : op = 30 ∨ op = 31 ∨ (op ≠ 30 ∧ op ≠ 31) := by omega
            rcases h3 with rfl | rfl | ⟨h3, h4⟩
            · exact HEn.out
            · exact HEn.out
            · rw [smpN, if_neg h3, if_neg h4]
              have := (HCom.out h0 h3 h4).ended
              rw [show doN A R op a (ahead m) = doN A R op a { tick m with at_ := m.at_ + 1 } from rfl, do_setat]
              exact this.trans HEn.out
          have HE : Hid (dnM L.length (stepN L A R m) = { stepN L A R m with ended := decide ((stepN L A R m).at_ = n) }) := by
            show dnM L.length (stepN L A R m) = _
            rw [HNn.out]; exact dnM_on HEd.out
          generalize nmOf op = nm at *
          obtain ⟨m6, hm6⟩ : ∃ m6, m6 = stepN L A R m := ⟨_, rfl⟩
          rw [← hm6] at HS
          have HE' : Hid (dnM L.length (stepN L A R m) = { m6 with ended := decide (m6.at_ = n) }) := by
            show dnM L.length (stepN L A R m) = _
            rw [hm6]; exact HE.out
          clear HE HEd hm6
          have HE := HE'
          clear HE'
          clear hsim
          go_wp2_with fail
          refine HS.mono ?_
          rintro e W6 ⟨rfl, hm6, hf6⟩
          have HD7 : Hid (RS w W6 F B c L A R a m6) := HD6.out.next hm6 hf6
          clear hm6 hf6 HS HD6 d1
          obtain ⟨c11, _, c13, _, _⟩ := HD7.out.mrt.cells
          have c4 := HD7.out.lay
          have f13 := HD7.out.mrt.froz 13
          have HY : Hid (RS w ((W6).setCell ⟨B, 13, none⟩ (.bool (decide ((m6).at_ = n)))) F B c L A R a { m6 with ended := decide ((m6).at_ = n) }) := HD7.out.put 13 _ _ (fun _ => rfl) rfl rfl rfl rfl
          rw [HN.out] at c4
          generalize (m6).at_ = t at *
          by_cases htn : t = n
          · subst htn
            rw [decide_eq_true rfl] at HY
            go_upto_region 15 with fail
            go_cut [] (fun wx => wx = ((W6).setCell ⟨B, 13, none⟩ (.bool true)).drew)
            case first =>
              go_region
              all_goals (go_wp2_with fail; go_meet; rfl)
            case rest =>
              subst hcut
              go_wp2
              go_ret
              exact ⟨rfl, by rw [HE.out]; exact HY.out.end.1.drew, HY.out.end.2.trans (Fr.drawn _ _)⟩
          · rw [decide_eq_false htn] at HY HE
            have htn' : ((t : Int) == (n : Int)) = false := by simp; omega
            go_upto_region 15 with fail
            go_cut [] (fun wx => wx = ((W6).setCell ⟨B, 13, none⟩ (.bool false)).drew)
            case first =>
              go_region
              all_goals (go_wp2_with fail; go_meet; rfl)
            case rest =>
              subst hcut
              go_wp2
              go_ret
              exact ⟨rfl, by rw [HE.out]; exact HY.out.end.1.drew, HY.out.end.2.trans (Fr.drawn _ _)⟩
        | false =>
          obtain ⟨o1, o2, o3⟩ := HOth.out hsim h0
          have HS := nosim_any op hsim HO.out h0 V6 B a
          have HP := oth_any op hsim HO.out h0 V6 (FB F w) B c L A R (ahead m) a HD6.out.mrt HD6.out.giv HTk.out HL.out.1 HL.out.2 HX.out.1 HX.out.2
          have h30 : op ≠ 30 := by intro e; subst e; cases hsim
          have h31 : op ≠ 31 := by intro e; subst e; cases hsim
          have HC : Hid (Com (tick m) (doN A R op a (tick m)).1) := HCom.out h0 h30 h31
          have HU : Hid ((doN A R op a (tick m)).1.user = if op = 36 then m.top else m.user) := do_user A R op a (tick m)
          have HA : Hid ((doN A R op a (tick m)).1.at_ = m.at_) := do_at A R op a (tick m)
          have HO1 : Hid ((doN A R op a (ahead m)).2 = (doN A R op a (tick m)).2) := o1
          have HO2 : Hid ((doN A R op a (ahead m)).2 = 0 → (doN A R op a (ahead m)).1 = stepN L A R m) := o2
          have HO3 : Hid ((doN A R op a (ahead m)).2 ≠ 0 → stepN L A R m = failN (doN A R op a (tick m)).2 (doN A R op a (tick m)).1) := o3
          have HEq : Hid ((doN A R op a (ahead m)).1.ended = false) := by
            show (doN A R op a (ahead m)).1.ended = false
            rw [show doN A R op a (ahead m) = doN A R op a { tick m with at_ := m.at_ + 1 } from rfl, do_setat]
            exact HC.out.ended.trans HEn.out
          generalize nmOf op = nm at *
          clear hsim o1 o2 o3
          go_wp2_with fail
          refine HS.mono ?_
          rintro e W6 ⟨rfl, hw⟩
          subst hw
          go_wp2_with fail
          refine HP.mono ?_
          rintro e W7 ⟨m7, u, rfl, hm7, hf7, hq⟩
          have HD7 : Hid (RS w W7 F B c L A R a m7) := HD6.out.next hm7 hf7
          have HQ : Hid (OthP A R op a (ahead m) m7 u) := hq
          clear hm7 hf7 hq HS HP HD6 d1
          by_cases hf0 : (doN A R op a (ahead m)).2 = 0
          · have HE : Hid (dnM L.length (stepN L A R m) = { m7 with ended := decide (m7.at_ = n) }) := by
              show dnM L.length (stepN L A R m) = _
              rw [← HO2.out hf0, ← HQ.out.ok hf0, HNn.out]
              exact dnM_on (by rw [HQ.out.ok hf0]; exact HEq.out)
            rw [hf0]
            obtain ⟨c11, _, c13, _, _⟩ := HD7.out.mrt.cells
            have c4 := HD7.out.lay
            have f13 := HD7.out.mrt.froz 13
            have HY : Hid (RS w ((W7).setCell ⟨B, 13, none⟩ (.bool (decide ((m7).at_ = n)))) F B c L A R a { m7 with ended := decide ((m7).at_ = n) }) := HD7.out.put 13 _ _ (fun _ => rfl) rfl rfl rfl rfl
            rw [HN.out] at c4
            generalize (m7).at_ = t at *
            by_cases htn : t = n
            · subst htn
              rw [decide_eq_true rfl] at HY
              go_upto_region 15 with fail
              go_cut [] (fun wx => wx = ((W7).setCell ⟨B, 13, none⟩ (.bool true)).drew)
              case first =>
                go_region
                all_goals (go_wp2_with fail; go_meet; rfl)
              case rest =>
                subst hcut
                go_wp2
                go_ret
                exact ⟨rfl, by rw [HE.out]; exact HY.out.end.1.drew, HY.out.end.2.trans (Fr.drawn _ _)⟩
            · rw [decide_eq_false htn] at HY HE
              have htn' : ((t : Int) == (n : Int)) = false := by simp; omega
              go_upto_region 15 with fail
              go_cut [] (fun wx => wx = ((W7).setCell ⟨B, 13, none⟩ (.bool false)).drew)
              case first =>
                go_region
                all_goals (go_wp2_with fail; go_meet; rfl)
              case rest =>
                subst hcut
                go_wp2
                go_ret
                exact ⟨rfl, by rw [HE.out]; exact HY.out.end.1.drew, HY.out.end.2.trans (Fr.drawn _ _)⟩
          · have HE : Hid (dnM L.length (stepN L A R m) = failR (doN A R op a (ahead m)).2 u nl np m7) := by
              show dnM L.length (stepN L A R m) = _
              rw [HO3.out hf0, dnM_stop rfl]
              unfold failN failR
              rw [HO1.out, HA.out, HQ.out.at_, HQ.out.steps, HQ.out.no hf0, HU.out, HUs.out, HC.out.steps, HC.out.lo, HC.out.pu]
              show M.mk m.at_ [] (List.replicate m.lo.length 0) [] (List.replicate m.pu.length (0, 0)) true _ (if op = 36 then m.top else 0) (m.steps + 1) = _
              rw [HNL.out.2.2.2.2.1, HNL.out.2.2.2.2.2]
              rfl
            have hb1 : 1 ≤ m7.at_ := by rw [HQ.out.at_]; show 1 ≤ m.at_ + 1; omega
            have hb2 : m7.at_ ≤ 1000 := by rw [HQ.out.at_]; show m.at_ + 1 ≤ 1000; omega
            have HP := rfails_any W7 (FB F w) B c m7 (doN A R op a (ahead m)).2 u nl np HD7.out.mrt hb1 hb2 HNL.out.1 HNL.out.2.1 HNL.out.2.2.1 HNL.out.2.2.2.1
            have hf0' : ((doN A R op a (ahead m)).2 != 0) = true := by simpa using hf0
            clear hb1 hb2
            generalize (doN A R op a (ahead m)).2 = f at *
            go_wp2_with fail
            refine HP.mono ?_
            rintro e W8 ⟨rfl, hm8, hf8⟩
            have HY : Hid (RS w W8 F B c L A R a (failR f u nl np m7)) := HD7.out.next hm8 hf8
            clear hm8 hf8 HP
            go_wp2
            go_ret
            exact ⟨rfl, by rw [HE.out]; exact HY.out.end.1, HY.out.end.2⟩
end Go.Proofs.Ytbpgafchagpmoaa
