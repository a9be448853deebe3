/-
  DictPlays: the law.
-/
import Derived.Test.YtgaolpfpenaflaaDFour
namespace Go.Proofs.Ytgaolpfpenaflaa
open Go.RowKit Go.Sort

abbrev fMix : Nat := 8
abbrev fRgh : Nat := 9
/-- an Op -/
structure Oq where
  kd : Int
  k : K
  x : Int
  n : Int
  two : Bool
def OpsAt (w : World) (ao : Option Addr) (l : List Oq) : Prop :=
  l = [] ∨ ∃ b off, ao = some ⟨b, off, none⟩ ∧ b < w.heap.size ∧ ∀ (j : Nat) (h : j < l.length), w.cell? ⟨b, off + j * 6, none⟩ = some (.int .i64 l[j].kd) ∧ w.cell? ⟨b, off + j * 6 + 1, none⟩ = some (.int .i64 l[j].k.1) ∧ w.cell? ⟨b, off + j * 6 + 2, none⟩ = some (.int .i64 l[j].k.2) ∧ w.cell? ⟨b, off + j * 6 + 3, none⟩ = some (.int .i64 l[j].x) ∧ w.cell? ⟨b, off + j * 6 + 4, none⟩ = some (.int .i64 l[j].n) ∧ w.cell? ⟨b, off + j * 6 + 5, none⟩ = some (.bool l[j].two)
theorem OpsAt.kept {w w' : World} {ao : Option Addr} {l : List Oq} (h : OpsAt w ao l) (hb : Below w.heap.size w w') : OpsAt w' ao l := by
  rcases h with h | ⟨b, off, h1, h2, h3⟩
  · exact .inl h
  · refine .inr ⟨b, off, h1, Nat.lt_of_lt_of_le h2 hb.size, fun j hj => ?_⟩
    obtain ⟨a0, a1, a2, a3, a4, a5⟩ := h3 j hj
    exact ⟨(hb.cell (p := ⟨b, _, none⟩) h2).trans a0, (hb.cell (p := ⟨b, _, none⟩) h2).trans a1, (hb.cell (p := ⟨b, _, none⟩) h2).trans a2, (hb.cell (p := ⟨b, _, none⟩) h2).trans a3, (hb.cell (p := ⟨b, _, none⟩) h2).trans a4, (hb.cell (p := ⟨b, _, none⟩) h2).trans a5⟩

theorem Two.callA {w0 : Nat} {w : World} {f g : Nat} {ad : Addr} {x b y : Value} {c : Nat} {S T : Nat → Prop} (h : Two w0 w f g (.pointer (some ad)) x b y c S T) (hw0 : w0 ≤ w.heap.size) (hc : c ≤ 3000000000000) {hh : K → Nat} (hok : PartOK f hh) (h64 : ∀ k, hh k < 18446744073709551616) (kd : Int) (k : K) (xx n : Int) (two : Bool) (hk : KIn k) (hx : In64 xx) :
    Calls Try.prog 11 #[.pointer (some ad), x, opv kd k xx n two, .int .u64 ((hh k : Nat) : Int)] w fun e w' => e = .returned (.bool true) ∧ (∃ S', Two w0 w' f g (.pointer (some ad)) x b y (c + 1) S' T) ∧ Below w0 w w' ∧ ∀ k, k < w.heap.size → ¬ S k → w'.heap[k]? = w.heap[k]? := by
  rcases h.a with ⟨hd, _⟩ | ⟨D, M, L, P, R, base, v, es, hd, hr, hp, he, hsp⟩
  · cases hd
  · cases hd
    subst hr
    refine (played_any kd w D M L f P R base v es hh k xx n two hp hok h64 hk hx (by omega)).mono ?_
    rintro e w' ⟨rfl, hpp⟩
    have := h.playA rfl hw0 he hsp hpp
    obtain ⟨_, _, _, h2, _⟩ := hpp
    exact ⟨rfl, this.1, this.2, fun k hk hn => h2.block k hk (fun hs => hn (hsp k hs).1)⟩
theorem Two.more {w0 : Nat} {w : World} {f g : Nat} {a x b y : Value} {c : Nat} {S T : Nat → Prop} (h : Two w0 w f g a x b y c S T) : Two w0 w f g a x b y (c + 1) S T :=
  ⟨h.a.same (Nat.le_refl _) (fun _ _ => rfl) (by omega), h.b.same (Nat.le_refl _) (fun _ _ => rfl) (by omega), h.sl, h.tl, h.st⟩

set_option maxRecDepth 100000 in
set_option maxHeartbeats 1000000 in
theorem law_dplays (w : World) (p q : Int) (ao : Option Addr) (n c : Nat) (l : List Oq) (hn : n = l.length) (hl : OpsAt w ao l) (hin : ∀ o ∈ l, KIn o.k ∧ In64 o.x) (hm : n ≤ 3000000000000) : Calls Try.prog 3 #[.int .i64 p, .int .i64 q, .slice ao n c] w fun e w' => e = .returned (.bool true) ∧ Below w.heap.size w w' := by
  go_enter Try.func3, Try.ntmps3
  go_wp2_with fail
  refine (na_any w p fMix).mono ?_
  rintro e w1 ⟨oa, ca, rfl, h1⟩
  have H1 : Hid (NA w w1 p fMix oa ca) := h1
  clear h1
  go_wp2_with fail
  refine (na_any w1 q fRgh).mono ?_
  rintro e w2 ⟨ob, cb, rfl, h2⟩
  have H2 : Hid (NA w1 w2 q fRgh ob cb) := h2
  clear h2
  go_wp2_with fail
  refine (nr_any w2 p).mono ?_
  rintro e w3 ⟨ox, cx, rfl, h3⟩
  have H3 : Hid (NR w2 w3 p ox cx) := h3
  clear h3
  go_wp2_with fail
  refine (nr_any w3 q).mono ?_
  rintro e w4 ⟨oy, cy, rfl, h4⟩
  obtain ⟨rfl, rfl, hax, hby, hT, hB⟩ := four H1.out H2.out H3.out h4
  have HT : Hid (∃ S T, Two w.heap.size w4 fMix fRgh (.pointer oa) (.pointer ox) (.pointer ob) (.pointer oy) 0 S T) := hT
  have HB : Hid (Below w.heap.size w w4) := hB
  have HPb : Hid (∀ ad, oa = some ad → 1 ≤ p ∧ p ≤ 256) := fun ad e => by
    rcases H1.out with ⟨h, _⟩ | ⟨P, _, _, _, h, _, _, hP, _⟩
    · rw [h] at e; cases e
    · omega
  clear hT hB h4 H1 H2 H3
  go_upto_region 5 with fail
  go_cut [60] (fun u wx => u = .bool false ∧ wx = w4)
  case first =>
    rcases hax with ⟨rfl, rfl⟩ | ⟨xa, xb, rfl, rfl⟩ <;> rcases hby with ⟨rfl, rfl⟩ | ⟨ya, yb, rfl, rfl⟩
    all_goals (
      go_wp2_with fail
      go_meet
      exact ⟨rfl, rfl⟩)
  case rest =>
    obtain ⟨rfl, rfl⟩ := hcut
    have HN : Hid (n = l.length ∧ ∀ o ∈ l, KIn o.k ∧ In64 o.x) := ⟨hn, hin⟩
    have HL : Hid (OpsAt w ao l) := hl
    clear hn hin hl
    go_wp2
    go_loopw [15] (fun i wr => ∃ j : Nat, j ≤ n ∧ i = .int .i64 (j : Int) ∧ Hid (∃ S T, Two w.heap.size wr fMix fRgh (.pointer oa) (.pointer ox) (.pointer ob) (.pointer oy) j S T) ∧ Hid (Below w.heap.size w wr)) (fun i _ => n - (intOf i).toNat)
    case atStart => exact ⟨0, Nat.zero_le _, rfl, HT, HB⟩
    case round =>
      clear HT HB
      obtain ⟨j, hj, rfl, HT, HB⟩ := hrel
      by_cases hlt : j < n
      · have hjl : j < l.length := by have := HN.out.1; omega
        obtain ⟨b, off, hao, hbw, hc⟩ : ∃ b off, ao = some ⟨b, off, none⟩ ∧ b < w.heap.size ∧ ∀ (j : Nat) (h : j < l.length), wr.cell? ⟨b, off + j * 6, none⟩ = some (.int .i64 l[j].kd) ∧ wr.cell? ⟨b, off + j * 6 + 1, none⟩ = some (.int .i64 l[j].k.1) ∧ wr.cell? ⟨b, off + j * 6 + 2, none⟩ = some (.int .i64 l[j].k.2) ∧ wr.cell? ⟨b, off + j * 6 + 3, none⟩ = some (.int .i64 l[j].x) ∧ wr.cell? ⟨b, off + j * 6 + 4, none⟩ = some (.int .i64 l[j].n) ∧ wr.cell? ⟨b, off + j * 6 + 5, none⟩ = some (.bool l[j].two) := by
          rcases HL.out.kept HB.out with h0 | ⟨b, off, h0, h1, h2⟩
          · rw [h0] at hjl; simp at hjl
          · rcases HL.out with h3 | ⟨b', off', h3, h4, _⟩
            · rw [h3] at hjl; simp at hjl
            · rw [h0] at h3; cases h3
              exact ⟨b, off, h0, h4, h2⟩
        obtain ⟨a0, a1, a2, a3, a4, a5⟩ := hc j hjl
        have HI : Hid (KIn l[j].k ∧ In64 l[j].x) := HN.out.2 _ (List.getElem_mem hjl)
        subst hao
        generalize l[j] = o at *
        clear hc
        obtain ⟨kd, ⟨k1, k2⟩, x, m, two⟩ := o
        simp only at a0 a1 a2 a3 a4 a5 HI
        have HX1 : Hid ((wr.alloc (opo kd k1 k2 x m two)).heap[wr.heap.size]? = some (opo kd k1 k2 x m two)) := heap_alloc_new _ _ rfl
        have hb1 : Below wr.heap.size wr (wr.alloc (opo kd k1 k2 x m two)) := (Below.refl _ _).alloc (Nat.le_refl _) _
        have HT1 : Hid (∃ S T, Two w.heap.size (wr.alloc (opo kd k1 k2 x m two)) fMix fRgh (.pointer oa) (.pointer ox) (.pointer ob) (.pointer oy) j S T ∧ ¬ S wr.heap.size ∧ ¬ T wr.heap.size) := by
          obtain ⟨S, T, h⟩ := HT.out
          exact ⟨S, T, h.kept hb1, fun e => by have := h.sl _ e; omega, fun e => by have := h.tl _ e; omega⟩
        have HB1 : Hid (Below w.heap.size w (wr.alloc (opo kd k1 k2 x m two))) := HB.out.trans (hb1.mono HB.out.size)
        unfold opo at HX1 HT1 HB1
        go_upto_region 11 with fail
        generalize wr.alloc (.cells #[.int .i64 kd, .int .i64 k1, .int .i64 k2, .int .i64 x, .int .i64 m, .bool two] 34) = W1 at *
        have HX : Hid (∀ W, Below W1.heap.size W1 W → W.cell? ⟨wr.heap.size, 0, none⟩ = some (.int .i64 kd) ∧ W.cell? ⟨wr.heap.size, 1, none⟩ = some (.int .i64 k1) ∧ W.cell? ⟨wr.heap.size, 2, none⟩ = some (.int .i64 k2) ∧ W.cell? ⟨wr.heap.size, 3, none⟩ = some (.int .i64 x) ∧ W.cell? ⟨wr.heap.size, 4, none⟩ = some (.int .i64 m) ∧ W.cell? ⟨wr.heap.size, 5, none⟩ = some (.bool two)) := fun W hW => by
          have h := (hW.block _ (blk_lt HX1.out)).trans HX1.out
          simp only [World.cell?, h]
          exact ⟨rfl, rfl, rfl, rfl, rfl, rfl⟩
        obtain ⟨b0, b1, b2, b3, b4, b5⟩ := HX.out W1 (Below.refl _ _)
        have HB0 : Hid (Below W1.heap.size W1 W1.drew) := ((Grew.refl W1).drewN 1).below
        clear hb1 a0 a1 a2 a3 a4 a5 HT HB
        have HE : Hid (∀ W, Below W1.heap.size W1 W → (∃ S T, Two w.heap.size W fMix fRgh (.pointer oa) (.pointer ox) (.pointer ob) (.pointer oy) j S T ∧ ¬ S wr.heap.size ∧ ¬ T wr.heap.size ∧ wr.heap.size < W.heap.size) ∧ Below w.heap.size w W) := fun W hW => by
          obtain ⟨S, T, h, hs, ht⟩ := HT1.out
          exact ⟨⟨S, T, h.kept hW, hs, ht, Nat.lt_of_lt_of_le (blk_lt HX1.out) hW.size⟩, HB1.out.trans (hW.mono HB1.out.size)⟩
        cases two with
        | false =>
          cases oa with
          | none =>
            go_wp2
            go_roundw
            case rel => exact ⟨j + 1, by omega, by go_num, (by obtain ⟨⟨S, T, h, _⟩, _⟩ := HE.out W1 (Below.refl _ _); exact ⟨S, T, h.more⟩), HB1⟩
            case measure => simp [intOf]; omega
          | some ad =>
            obtain ⟨hh, hok, hha, h64⟩ := part_ok_mixed
            have HPl : Hid (∀ W, Below W1.heap.size W1 W → Calls Try.prog 11 #[.pointer (some ad), .pointer ox, .agg #[.int .i64 kd, .int .i64 k1, .int .i64 k2, .int .i64 x, .int .i64 m, .bool false], .int .u64 ((hh (k1, k2) : Nat) : Int)] W fun e w' => e = .returned (.bool true) ∧ (∃ S T, Two w.heap.size w' fMix fRgh (.pointer (some ad)) (.pointer ox) (.pointer ob) (.pointer oy) (j + 1) S T) ∧ Below w.heap.size w w' ∧ (w'.cell? ⟨wr.heap.size, 0, none⟩ = some (.int .i64 kd) ∧ w'.cell? ⟨wr.heap.size, 1, none⟩ = some (.int .i64 k1) ∧ w'.cell? ⟨wr.heap.size, 2, none⟩ = some (.int .i64 k2) ∧ w'.cell? ⟨wr.heap.size, 3, none⟩ = some (.int .i64 x) ∧ w'.cell? ⟨wr.heap.size, 4, none⟩ = some (.int .i64 m) ∧ w'.cell? ⟨wr.heap.size, 5, none⟩ = some (.bool false))) := fun W hW => by
              obtain ⟨⟨S, T, h, hs, ht, hl⟩, hb⟩ := HE.out W hW
              have hc := HX.out W hW
              refine (h.callA hb.size (by omega) hok h64 kd (k1, k2) x m false HI.out.1 HI.out.2).mono ?_
              rintro e w' ⟨rfl, ⟨S', h1⟩, h2, h3⟩
              have h4 := h3 wr.heap.size hl hs
              exact ⟨rfl, ⟨S', T, h1⟩, hb.trans h2, by simpa only [World.cell?, h4] using hc⟩
            have HH : Hid (∀ W, Below W1.heap.size W1 W → Calls Try.prog 8 #[.agg #[.int .i64 k1, .int .i64 k2]] W fun e w' => e = .returned (.int .u64 ((hh (k1, k2) : Nat) : Int)) ∧ Below W1.heap.size W1 w') := fun W hW => by
              refine (hha W k1 k2).mono ?_
              rintro e w' ⟨rfl, hg⟩
              exact ⟨rfl, hW.trans (hg.below.mono hW.size)⟩
            clear hok hha h64
            go_wp2_with fail
            go_region_held3 (fun w' => w'.cell? ⟨wr.heap.size, 0, none⟩ = some (.int .i64 kd) ∧ w'.cell? ⟨wr.heap.size, 1, none⟩ = some (.int .i64 k1) ∧ w'.cell? ⟨wr.heap.size, 2, none⟩ = some (.int .i64 k2) ∧ w'.cell? ⟨wr.heap.size, 3, none⟩ = some (.int .i64 x) ∧ w'.cell? ⟨wr.heap.size, 4, none⟩ = some (.int .i64 m) ∧ w'.cell? ⟨wr.heap.size, 5, none⟩ = some (.bool false)) (first | exact HQ.out.2.2 | exact HX.out _ HBq.out | go_keep) (first | (go_at_call 8; refine (HH.out _ HB0.out).mono ?_; rintro e wq ⟨rfl, hbq⟩; have HBq : Hid (Below W1.heap.size W1 wq) := hbq; clear hbq) | (go_at_call 11; refine (HPl.out _ HBq.out).mono ?_; rintro e wp ⟨rfl, hbp⟩; have HQ : Hid ((∃ S T, Two w.heap.size wp fMix fRgh (.pointer (some ad)) (.pointer ox) (.pointer ob) (.pointer oy) (j + 1) S T) ∧ Below w.heap.size w wp ∧ (wp.cell? ⟨wr.heap.size, 0, none⟩ = some (.int .i64 kd) ∧ wp.cell? ⟨wr.heap.size, 1, none⟩ = some (.int .i64 k1) ∧ wp.cell? ⟨wr.heap.size, 2, none⟩ = some (.int .i64 k2) ∧ wp.cell? ⟨wr.heap.size, 3, none⟩ = some (.int .i64 x) ∧ wp.cell? ⟨wr.heap.size, 4, none⟩ = some (.int .i64 m) ∧ wp.cell? ⟨wr.heap.size, 5, none⟩ = some (.bool false))) := hbp; clear hbp))
            all_goals (
              obtain ⟨g0, g1, g2, g3, g4, g5⟩ := HQ.out.2.2
              go_wp2
              go_roundw
              case rel => exact ⟨j + 1, by omega, by go_num, HQ.out.1, HQ.out.2.1⟩
              case measure => simp [intOf]; omega)
        | true =>
          cases ob with
          | none =>
            go_wp2
            go_roundw
            case rel => exact ⟨j + 1, by omega, by go_num, (by obtain ⟨⟨S, T, h, _⟩, _⟩ := HE.out W1 (Below.refl _ _); exact ⟨S, T, h.more⟩), HB1⟩
            case measure => simp [intOf]; omega
          | some ad =>
            obtain ⟨hh, hok, hha, h64⟩ := part_ok_rough
            have HPl : Hid (∀ W, Below W1.heap.size W1 W → Calls Try.prog 11 #[.pointer (some ad), .pointer oy, .agg #[.int .i64 kd, .int .i64 k1, .int .i64 k2, .int .i64 x, .int .i64 m, .bool true], .int .u64 ((hh (k1, k2) : Nat) : Int)] W fun e w' => e = .returned (.bool true) ∧ (∃ S T, Two w.heap.size w' fMix fRgh (.pointer oa) (.pointer ox) (.pointer (some ad)) (.pointer oy) (j + 1) S T) ∧ Below w.heap.size w w' ∧ (w'.cell? ⟨wr.heap.size, 0, none⟩ = some (.int .i64 kd) ∧ w'.cell? ⟨wr.heap.size, 1, none⟩ = some (.int .i64 k1) ∧ w'.cell? ⟨wr.heap.size, 2, none⟩ = some (.int .i64 k2) ∧ w'.cell? ⟨wr.heap.size, 3, none⟩ = some (.int .i64 x) ∧ w'.cell? ⟨wr.heap.size, 4, none⟩ = some (.int .i64 m) ∧ w'.cell? ⟨wr.heap.size, 5, none⟩ = some (.bool true))) := fun W hW => by
              obtain ⟨⟨S, T, h, hs, ht, hl⟩, hb⟩ := HE.out W hW
              have hc := HX.out W hW
              refine (h.swap.callA hb.size (by omega) hok h64 kd (k1, k2) x m true HI.out.1 HI.out.2).mono ?_
              rintro e w' ⟨rfl, ⟨S', h1⟩, h2, h3⟩
              have h4 := h3 wr.heap.size hl ht
              exact ⟨rfl, ⟨S, S', h1.swap⟩, hb.trans h2, by simpa only [World.cell?, h4] using hc⟩
            have HH : Hid (∀ W, Below W1.heap.size W1 W → Calls Try.prog 9 #[.agg #[.int .i64 k1, .int .i64 k2]] W fun e w' => e = .returned (.int .u64 ((hh (k1, k2) : Nat) : Int)) ∧ Below W1.heap.size W1 w') := fun W hW => by
              refine (hha W k1 k2).mono ?_
              rintro e w' ⟨rfl, hg⟩
              exact ⟨rfl, hW.trans (hg.below.mono hW.size)⟩
            clear hok hha h64
            go_wp2_with fail
            go_region_held3 (fun w' => w'.cell? ⟨wr.heap.size, 0, none⟩ = some (.int .i64 kd) ∧ w'.cell? ⟨wr.heap.size, 1, none⟩ = some (.int .i64 k1) ∧ w'.cell? ⟨wr.heap.size, 2, none⟩ = some (.int .i64 k2) ∧ w'.cell? ⟨wr.heap.size, 3, none⟩ = some (.int .i64 x) ∧ w'.cell? ⟨wr.heap.size, 4, none⟩ = some (.int .i64 m) ∧ w'.cell? ⟨wr.heap.size, 5, none⟩ = some (.bool true)) (first | exact HQ.out.2.2 | exact HX.out _ HBq.out | go_keep) (first | (go_at_call 9; refine (HH.out _ HB0.out).mono ?_; rintro e wq ⟨rfl, hbq⟩; have HBq : Hid (Below W1.heap.size W1 wq) := hbq; clear hbq) | (go_at_call 11; refine (HPl.out _ HBq.out).mono ?_; rintro e wp ⟨rfl, hbp⟩; have HQ : Hid ((∃ S T, Two w.heap.size wp fMix fRgh (.pointer oa) (.pointer ox) (.pointer (some ad)) (.pointer oy) (j + 1) S T) ∧ Below w.heap.size w wp ∧ (wp.cell? ⟨wr.heap.size, 0, none⟩ = some (.int .i64 kd) ∧ wp.cell? ⟨wr.heap.size, 1, none⟩ = some (.int .i64 k1) ∧ wp.cell? ⟨wr.heap.size, 2, none⟩ = some (.int .i64 k2) ∧ wp.cell? ⟨wr.heap.size, 3, none⟩ = some (.int .i64 x) ∧ wp.cell? ⟨wr.heap.size, 4, none⟩ = some (.int .i64 m) ∧ wp.cell? ⟨wr.heap.size, 5, none⟩ = some (.bool true))) := hbp; clear hbp))
            all_goals (
              obtain ⟨g0, g1, g2, g3, g4, g5⟩ := HQ.out.2.2
              go_wp2
              go_roundw
              case rel => exact ⟨j + 1, by omega, by go_num, HQ.out.1, HQ.out.2.1⟩
              case measure => simp [intOf]; omega)
      · have hnl : ¬ j < l.length := by have := HN.out.1; omega
        cases oa with
        | none =>
          go_wp2
          go_ret
          exact ⟨rfl, HB.out⟩
        | some ad =>
          have hpb := HPb.out ad rfl
          obtain ⟨D, M, L, P, R, base, v, es, hd, hr, HPL, he⟩ : ∃ D M L P R base v es, ad = ⟨D, 0, none⟩ ∧ ox = some ⟨R, 0, none⟩ ∧ Hid (PL wr D M L fMix P R base v es) ∧ es.length ≤ 3000000000000 := by
            obtain ⟨S, T, h⟩ := HT.out
            rcases h.a with ⟨hd, _⟩ | ⟨D, M, L, P, R, base, v, es, hd, hr, hp, he, hsp⟩
            · cases hd
            · cases hd; cases hr
              exact ⟨D, M, L, P, R, base, v, es, rfl, rfl, hp, by omega⟩
          subst hd hr
          have HPB : Hid (PL wr D M L fMix P R base v es ∧ Below w.heap.size w wr) := ⟨HPL.out, HB.out⟩
          clear HT HB HPb HN HL hlt HPL
          go_wp2
          go_loopw [18] (fun i wz => ∃ t : Int, -1 ≤ t ∧ t ≤ p + 1 ∧ i = .int .i64 t ∧ Hid (PL wz D M L fMix P R base v es ∧ Below w.heap.size w wz)) (fun i _ => (p + 1 - intOf i).toNat)
          case atStart => exact ⟨-1, by omega, by omega, rfl, HPB⟩
          case round =>
            clear HPB
            obtain ⟨t, ht1, ht2, rfl, HPL⟩ := hrel
            by_cases hle : t ≤ p
            · have hm10 : es.length ≤ 4000000000000 := by omega
              obtain ⟨rl, hrl⟩ : ∃ rl, rl = ptI P t es := ⟨_, rfl⟩
              obtain ⟨k, hk⟩ : ∃ k, k = rl.length := ⟨_, rfl⟩
              have hkm : k ≤ 4000000000000 := by
                have h1 : (ptI P t es).length ≤ es.length := by unfold ptI; split; · exact List.length_filter_le _ _
                                                                · simp
                rw [hk, hrl]; omega
              have HRl : Hid (rl = ptI P t es ∧ k = rl.length) := ⟨hrl, hk⟩
              clear hrl hk
              go_wp2_with fail
              refine (told_any wr D M L P (hfn fMix) es t HPL.out.1.da hm10).mono ?_
              rintro e z1 ⟨v1, rfl, ho1, hb1⟩
              obtain ⟨a1, c1, e1, hp1, _⟩ := ho1.slice
              rw [← HRl.out.1, ← HRl.out.2] at e1
              rw [← HRl.out.1] at hp1
              subst e1
              have HZ1 : Hid (PL z1 D M L fMix P R base v es ∧ PrAt z1 a1 rl) := ⟨HPL.out.1.kept hb1, hp1⟩
              have HY1 : Hid (Below w.heap.size w z1) := HPL.out.2.trans (hb1.mono HPL.out.2.size)
              clear ho1 hb1 hp1
              go_wp2_with fail
              refine (reach_any z1 base R P v es t HZ1.out.1.ra hm10).mono ?_
              rintro e z2 ⟨v2, rfl, ho2, hb2⟩
              rw [fl_pt (fun e he => (HZ1.out.1.da.pp e he).1)] at ho2
              obtain ⟨a2, c2, e2, hp2, _⟩ := ho2.slice
              rw [← HRl.out.1, ← HRl.out.2] at e2
              rw [← HRl.out.1] at hp2
              subst e2
              have HZ2 : Hid (PL z2 D M L fMix P R base v es ∧ PrAt z2 a1 rl ∧ PrAt z2 a2 rl) := ⟨HZ1.out.1.kept hb2, HZ1.out.2.kept hb2, hp2⟩
              have HY2 : Hid (Below w.heap.size w z2) := HY1.out.trans (hb2.mono HY1.out.size)
              clear ho2 hb2 hp2
              go_wp2_with fail
              refine (same_eq z2 a1 a2 k c1 c2 rl HRl.out.2 HZ2.out.2.1 HZ2.out.2.2 hkm).mono ?_
              rintro e z3 ⟨rfl, nq, rfl⟩
              have HZ3 : Hid (PL (z2.drewN nq) D M L fMix P R base v es ∧ Below w.heap.size w (z2.drewN nq)) := ⟨HZ2.out.1.same (Nat.le_refl _) (fun _ _ => rfl), HY2.out.os, HY2.out.tape, HY2.out.output, HY2.out.size, HY2.out.block⟩
              generalize z2.drewN nq = z4 at *
              go_wp2
              go_roundw
              case rel => exact ⟨t + 1, by omega, by omega, by go_num, HZ3⟩
              case measure => simp [intOf]; omega
            · go_wp2
              go_ret
              exact ⟨rfl, HPL.out.2⟩
end Go.Proofs.Ytgaolpfpenaflaa
