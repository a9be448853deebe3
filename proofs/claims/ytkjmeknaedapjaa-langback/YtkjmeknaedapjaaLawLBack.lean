/-
  THE WALK OF LangBack.
-/
import Derived.Test.YtkjmeknaedapjaaLDec
import Derived.Test.YtkjmeknaedapjaaLAwake
import Derived.Test.YtkjmeknaedapjaaLSameL
import Derived.Test.YtkjmeknaedapjaaLSameB
namespace Go.Proofs.Ytkjmeknaedapjaa
open Go.RowKit Go.Sort

theorem RowAt.at' {W : World} {g : Nat} {L : List Nat} (h : RowAt W g L) (hz : ∀ z ∈ L, z < 256) : BytesAt W (some ⟨g, 0, none⟩) L :=
  ⟨hz, .inr ⟨g, 0, rfl, fun j hj => by rw [Nat.zero_add]; exact h.cell j hj⟩⟩
theorem procsB_lt (Ps : List Pr) : ∀ z ∈ procsB Ps, z < 256 := by
  induction Ps with
  | nil => intro z hz; simp [procsB] at hz
  | cons x Ps ih =>
    intro z hz
    simp only [procsB, procB, List.mem_append] at hz
    rcases hz with ((h | h) | h) | h
    · exact uint_lt _ _ z h
    · exact nmB_lt _ z h
    · exact written_lt _ _ z h
    · exact ih z h
theorem encN_lt (Ps : List Pr) : ∀ z ∈ encN Ps, z < 256 := by
  intro z hz
  simp only [encN, headL, List.mem_append] at hz
  rcases hz with (h | h) | h
  · simp at h; omega
  · exact uint_lt _ _ z h
  · exact procsB_lt Ps z h
theorem encN_length {Ps : List Pr} (h : (checkN Ps).2 = 0) : (encN Ps).length ≤ 300000 := by
  have h1 := procsB_length Ps (check_small h)
  have h2 := (check_name h).1
  have h3 := uint_length 10 Ps.length
  simp only [encN, headL, List.length_append, List.length_cons, List.length_nil]
  omega
theorem like_core {Ps Qs : List Pr} (h : Qs.map core = Ps.map core) (W : World) (hQ : ∀ x ∈ Qs, PrOK W x) (hP : ∀ x ∈ Ps, PrOK W x) : ∀ i, i < Ps.length → LikeP (pd Qs i) (pd Ps i) ∧ KeysAt W (pd Qs i).ao (pd Qs i).L ∧ KeysAt W (pd Ps i).ao (pd Ps i).L ∧ (pd Ps i).n = (pd Ps i).L.length ∧ (pd Ps i).n * 16 ≤ 140737488355328 := by
  intro i hi
  have hl : Qs.length = Ps.length := by simpa using congrArg List.length h
  have e := core_pd h i
  simp only [core, Prod.mk.injEq] at e
  have h1 := hQ _ (pd_mem (show i < Qs.length by omega))
  have h2 := hP _ (pd_mem hi)
  exact ⟨⟨e.1, e.2.1, by rw [h1.len, h2.len, e.2.2], e.2.2⟩, h1.ks, h2.ks, h2.len, by have := h2.big; omega⟩

set_option maxRecDepth 100000 in
set_option maxHeartbeats 2000000 in
theorem back_walk (w : World) (ao : Option Addr) (n cap : Nat) (Ps : List Pr) (h : LibAt w ao Ps) (hn : n = Ps.length) (hc : n ≤ cap) (hm : n ≤ 140737488351232)
    (ao2 : Option Addr) (n2 cap2 : Nat) (b : List Nat) (h2 : BytesAt w ao2 b) (hn2 : n2 = b.length) (hm2 : n2 ≤ 140737488355328) :
    Calls Try.prog 3 #[.slice ao n cap, .slice ao2 n2 cap2] w fun e w' => e = .returned (.bool true) ∧ Below w.heap.size w w' := by
  have H : Hid (LibAt w ao Ps) := h
  have HN : Hid (n = Ps.length) := hn
  have H2 : Hid (BytesAt w ao2 b) := h2
  have HN2 : Hid (n2 = b.length) := hn2
  clear h hn h2 hn2
  go_enter Try.func3, Try.ntmps3
  go_wp2_with fail
  refine (awake_any w).mono ?_
  rintro e w1 ⟨rfl, hb1⟩
  have HB1 : Hid (Below w.heap.size w w1) := hb1
  clear hb1
  go_wp2_with fail
  refine (check_any w1 ao n cap Ps (H.out.kept HB1.out) HN.out hc hm).mono ?_
  rintro e w2 ⟨rfl, hb2⟩
  have HB2 : Hid (Below w.heap.size w w2) := HB1.out.trans (hb2.mono HB1.out.size)
  clear hb2 HB1
  go_wp2_with fail
  refine (encode_any w2 ao n cap Ps (H.out.kept HB2.out) HN.out hc hm).mono ?_
  rintro e w3 ⟨hp3, hb3⟩
  have HB3 : Hid (Below w.heap.size w w3) := HB2.out.trans (hb3.mono HB2.out.size)
  obtain ⟨a3, l3, c3, rfl, hx3⟩ : ∃ a3 l3 c3, e = .returned (.tuple #[.slice a3 l3 c3, .int .i64 (checkN Ps).2]) ∧ ((checkN Ps).2 = 0 → BytesAt w3 a3 (encN Ps) ∧ l3 = (encN Ps).length) := by
    rcases hp3 with ⟨h0, he⟩ | ⟨h0, g, he, hr, _⟩
    · exact ⟨none, 0, 0, he, fun h => absurd h h0⟩
    · exact ⟨_, _, _, by rw [h0]; exact he, fun _ => ⟨hr.at' (encN_lt Ps), rfl⟩⟩
  have HX3 : Hid ((checkN Ps).2 = 0 → BytesAt w3 a3 (encN Ps) ∧ l3 = (encN Ps).length) := hx3
  clear hb3 HB2 hp3 hx3
  obtain ⟨c1, hc1⟩ : ∃ c1, c1 = (checkN Ps).1 := ⟨_, rfl⟩
  obtain ⟨c2, hc2⟩ : ∃ c2, c2 = (checkN Ps).2 := ⟨_, rfl⟩
  have HC2 : Hid (c2 = (checkN Ps).2) := hc2
  rw [← hc2] at HX3 ⊢
  rw [← hc1]
  clear hc1 hc2
  go_upto_if 32 with fail
  go_cut [] (fun wx => Hid (Below w.heap.size w wx))
  case first =>
    by_cases h0 : c2 = 0
    · have HX4 : Hid (BytesAt w3 a3 (encN Ps) ∧ l3 = (encN Ps).length) := HX3.out h0
      have HK : Hid ((checkN Ps).2 = 0) := by rw [← HC2.out]; exact h0
      subst h0
      clear HC2 HX3
      go_wp2_with fail
      refine (decode_any w3 a3 l3 c3 (encN Ps) HX4.out.1 HX4.out.2 (by rw [HX4.out.2]; have := encN_length HK.out; omega)).mono ?_
      rintro e w4 ⟨hb4, hp4⟩
      have HB4 : Hid (Below w.heap.size w w4) := HB3.out.trans (hb4.mono HB3.out.size)
      obtain ⟨Qs, a4, c4, hq4, rfl, hl4⟩ : ∃ Qs a4 c4, Qs.map core = Ps.map core ∧ e = .returned (.tuple #[.slice a4 n c4, .int .i64 0, .int .i64 0]) ∧ LibAt w4 a4 Qs := by
        obtain ⟨hA, hE⟩ := dec_at (check_name HK.out).1 (Sd.of HK.out (fun x hx k hk => (H.out.ok x hx).kin k hk))
        rcases hp4 with ⟨h0, _⟩ | ⟨_, Qs, a4, c4, p4, hq, hd, hcs⟩
        · exact absurd hE h0
        · rw [hA] at hq
          have hq' : Qs.map core = Ps.map core := hq
          have hl : Qs.length = Ps.length := by simpa using congrArg List.length hq'
          rcases hcs with ⟨h0, _⟩ | ⟨_, he⟩
          · rw [check_core hq', HK.out] at h0; exact absurd rfl h0
          · exact ⟨Qs, a4, c4, hq', by rw [he, hl, HN.out], hd.lib.1⟩
      have HL4 : Hid (LibAt w4 a4 Qs) := hl4
      have HQ4 : Hid (Qs.map core = Ps.map core) := hq4
      have HLn : Hid (n = Qs.length) := by
        have : Qs.length = Ps.length := by simpa using congrArg List.length hq4
        show n = _; rw [this]; exact HN.out
      clear hb4 hp4 hl4 hq4 HX4
      go_wp2_with fail
      have hP4 := H.out.kept HB4.out
      refine (sameLibrary_eq w4 a4 ao n c4 cap Qs Ps HL4.out.at_ hP4.at_ HN.out HLn.out hm (fun i hi => like_core HQ4.out _ HL4.out.ok hP4.ok i (by rw [← HN.out]; exact hi))).mono ?_
      rintro e w5 ⟨rfl, hg5⟩
      have HB5 : Hid (Below w.heap.size w w5) := HB4.out.trans ((Grew.below hg5).mono HB4.out.size)
      clear hg5 hP4 HL4 HQ4 HLn
      go_wp2_with fail
      go_meet
      case rel => exact HB5
    · have h0' : (c2 == 0) = false := by simpa using h0
      go_wp2_with fail
      go_meet
      case rel => exact HB3
  have HB5 := hcut
  clear hcut HB3 HX3 HC2
  generalize wc = w5 at *
  go_wp2_with fail
  refine (decode_any w5 ao2 n2 cap2 b (H2.out.kept HB5.out) HN2.out hm2).mono ?_
  rintro e w6 ⟨hb6, hp6⟩
  have HB6 : Hid (Below w.heap.size w w6) := HB5.out.trans (hb6.mono HB5.out.size)
  obtain ⟨ee, at6, hes, hee⟩ | ⟨Qs, a6, c6, rfl, hl6, hk6, he6⟩ : (∃ ee at6 : Int, e = .returned (.tuple #[.slice none 0 0, .int .i64 at6, .int .i64 ee]) ∧ ee ≠ 0) ∨ (∃ Qs a6 c6, e = .returned (.tuple #[.slice a6 Qs.length c6, .int .i64 0, .int .i64 0]) ∧ (LibAt w6 a6 Qs ∧ Qs.length ≤ c6) ∧ (checkN Qs).2 = 0 ∧ encN Qs = b) := by
    rcases hp6 with ⟨h0, he⟩ | ⟨hE, Qs, a6, c6, p6, hq, hd, hcs⟩
    · exact .inl ⟨_, _, he, h0⟩
    · rcases hcs with ⟨h0, he⟩ | ⟨h0, he⟩
      · exact .inl ⟨_, _, he, h0⟩
      · exact .inr ⟨Qs, a6, c6, he, ⟨hd.lib.1, hd.lib.2.2⟩, h0, dec_back H2.out.1 hE hq (Sd.of h0 (fun x hx k hk => (hd.lib.1.ok x hx).kin k hk))⟩
  · subst hes
    have hee' : (ee != 0) = true := by simpa using hee
    clear hp6 hb6
    go_wp2
    go_ret
    exact ⟨rfl, HB6.out⟩
  · have HL6 : Hid (LibAt w6 a6 Qs) := hl6.1
    have hc6 : Qs.length ≤ c6 := hl6.2
    have HK6 : Hid ((checkN Qs).2 = 0) := hk6
    have HE6 : Hid (encN Qs = b) := he6
    have hm6 : Qs.length ≤ 140737488351232 := by have := (check_name hk6).1; omega
    clear hp6 hb6 hl6 hk6 he6 HB5
    obtain ⟨m6, hm6e⟩ : ∃ m6, m6 = Qs.length := ⟨_, rfl⟩
    rw [← hm6e] at hc6 hm6 ⊢
    have HM6 : Hid (m6 = Qs.length) := hm6e
    clear hm6e
    go_wp2_with fail
    refine (check_any w6 a6 m6 c6 Qs HL6.out HM6.out hc6 hm6).mono ?_
    rintro e w7 ⟨rfl, hb7⟩
    rw [HK6.out]
    have HB7 : Hid (Below w.heap.size w w7) := HB6.out.trans (hb7.mono HB6.out.size)
    have HL7 : Hid (LibAt w7 a6 Qs) := HL6.out.kept hb7
    clear hb7 HL6 HB6
    generalize (checkN Qs).1 = c7 at *
    go_wp2_with fail
    refine (encode_any w7 a6 m6 c6 Qs HL7.out HM6.out hc6 hm6).mono ?_
    rintro e w8 ⟨hp8, hb8⟩
    have HB8 : Hid (Below w.heap.size w w8) := HB7.out.trans (hb8.mono HB7.out.size)
    obtain ⟨g, rfl, hr8⟩ : ∃ g, e = .returned (.tuple #[.slice (some ⟨g, 0, none⟩) n2 n2, .int .i64 0]) ∧ RowAt w8 g b := by
      rcases hp8 with ⟨h0, _⟩ | ⟨_, g, he, hr, _⟩
      · exact absurd HK6.out h0
      · rw [HE6.out] at he hr; exact ⟨g, by rw [HN2.out]; exact he, hr⟩
    have HR8 : Hid (BytesAt w8 (some ⟨g, 0, none⟩) b) := hr8.at' H2.out.1
    have HX8 : Hid (BytesAt w8 ao2 b) := H2.out.kept HB8.out
    clear hb8 hp8 hr8 HB7 HL7
    go_wp2_with fail
    refine (same_any w8 (some ⟨g, 0, none⟩) ao2 n2 cap2 n2 n2 b b HN2.out HN2.out HR8.out HX8.out (by rw [← HN2.out]; unfold maxLen; omega)).mono ?_
    rintro e w9 ⟨rfl, nq, rfl⟩
    rw [show decide (b = b) = true by simp]
    have HB9 : Hid (Below w.heap.size w (w8.drewN nq)) := HB8.out.trans ⟨rfl, rfl, rfl, Nat.le_refl _, fun _ _ => rfl⟩
    go_wp2
    go_ret
    exact ⟨rfl, HB9.out⟩
end Go.Proofs.Ytkjmeknaedapjaa
