/-
  A Dict beside the document's: played.
-/
import Derived.Test.YtgaolpfpenaflaaDTold
import Derived.Test.YtgaolpfpenaflaaDTake2
import Derived.Test.YtgaolpfpenaflaaDClear
namespace Go.Proofs.Ytgaolpfpenaflaa
open Go.RowKit Go.Sort

structure PL (w : World) (D M L f P R base : Nat) (v : Value) (es : List En) : Prop where
  da : DA w D M L (hfn f) P es
  ra : RA w base R P v es
  bs : base ≤ w.heap.size
  ap : ∀ k, (k = D ∨ Ft M L es k) → k ≠ R ∧ v.ownBlock ≠ some k
/-- all blocks of the two -/
def SP (D M L R : Nat) (v : Value) (es : List En) (k : Nat) : Prop := (k = D ∨ Ft M L es k) ∨ k = R ∨ v.ownBlock = some k
theorem PL.lt {w : World} {D M L f P R base : Nat} {v : Value} {es : List En} (h : PL w D M L f P R base v es) {k : Nat} (hk : SP D M L R v es k) : k < w.heap.size := by
  rcases hk with hk | rfl | hk
  · exact h.da.lt hk
  · exact blk_lt h.ra.blk
  · exact (h.ra.row.lt k hk).2
theorem PL.same {w w' : World} {D M L f P R base : Nat} {v : Value} {es : List En} (h : PL w D M L f P R base v es) (hz : w.heap.size ≤ w'.heap.size) (hs : ∀ k, SP D M L R v es k → w'.heap[k]? = w.heap[k]?) : PL w' D M L f P R base v es :=
  ⟨h.da.same (fun k hk => hs k (.inl hk)), h.ra.same (fun k hk => hs k (.inr hk)), Nat.le_trans h.bs hz, h.ap⟩
theorem PL.kept {w w' : World} {D M L f P R base : Nat} {v : Value} {es : List En} (h : PL w D M L f P R base v es) (hb : Below w.heap.size w w') : PL w' D M L f P R base v es :=
  h.same hb.size (fun k hk => hb.block k (h.lt hk))
/-- what a call leaves -/
def PP (w : World) (D M L f P R base : Nat) (v : Value) (es : List En) (w' : World) : Prop :=
  ∃ v' es', PL w' D M L f P R base v' es' ∧ Fr (SP D M L R v es) w w' ∧ (∀ k, SP D M L R v' es' k → SP D M L R v es k ∨ w.heap.size ≤ k) ∧ es'.length ≤ es.length + 1
theorem PL.quiet {w w' : World} {D M L f P R base : Nat} {v : Value} {es : List En} (h : PL w D M L f P R base v es) (hb : Below w.heap.size w w') : PP w D M L f P R base v es w' :=
  ⟨v, es, h.kept hb, Fr.ofBelow hb, fun _ hk => .inl hk, by omega⟩
theorem PL.ra1 {w w1 : World} {D M L f P R base : Nat} {v : Value} {es : List En} (h : PL w D M L f P R base v es) (f1 : Fr (Ft M L es) w w1) : RA w1 base R P v es :=
  h.ra.same (fun k hk => f1.block k (h.lt (.inr hk)) (fun hf => by
    have := h.ap k (.inr hf)
    rcases hk with rfl | hk
    · exact this.1 rfl
    · exact this.2 hk))
theorem PL.step {w w1 w2 : World} {D M L f P R base : Nat} {v v' : Value} {es es' : List En} (h : PL w D M L f P R base v es) (d1 : DA w1 D M L (hfn f) P es') (f1 : Fr (Ft M L es) w w1) (r2 : RA w2 base R P v' es') (f2 : Fr (fun k => k = R ∨ v.ownBlock = some k) w1 w2) (hb : Bw w1 v v')
    (hE : ∀ e ∈ es', (∃ e0 ∈ es, e0.b = e.b) ∨ w.heap.size ≤ e.b) (hl : es'.length ≤ es.length + 1) : PP w D M L f P R base v es w2 := by
  have hap : ∀ k, (k = D ∨ Ft M L es' k) → k ≠ R ∧ v.ownBlock ≠ some k := by
    intro k hk
    have hold : (k = D ∨ Ft M L es k) ∨ w.heap.size ≤ k := by
      rcases hk with rfl | rfl | rfl | ⟨e, he, rfl⟩
      · exact .inl (.inl rfl)
      · exact .inl (.inr (.inl rfl))
      · exact .inl (.inr (.inr (.inl rfl)))
      · rcases hE e he with ⟨e0, h0, h1⟩ | h1
        · exact .inl (.inr (.inr (.inr ⟨e0, h0, h1⟩)))
        · exact .inr h1
    rcases hold with ho | ho
    · exact h.ap k ho
    · refine ⟨fun e => ?_, fun e => ?_⟩
      · have := h.lt (k := k) (.inr (.inl e)); omega
      · have := h.lt (k := k) (.inr (.inr e)); omega
  refine ⟨v', es', ⟨d1.same (fun k hk => f2.block k (d1.lt hk) (fun hn => ?_)), r2, Nat.le_trans h.bs (Nat.le_trans f1.size f2.size), fun k hk => ⟨(hap k hk).1, fun e => ?_⟩⟩, ?_, fun k hk => ?_, hl⟩
  · rcases hn with hn | hn
    · exact (hap k hk).1 hn
    · exact (hap k hk).2 hn
  · rcases hb k e with h1 | h1
    · exact (hap k hk).2 h1
    · have := d1.lt hk; omega
  · refine ⟨f2.os.trans f1.os, f2.tape.trans f1.tape, f2.output.trans f1.output, Nat.le_trans f1.size f2.size, fun k hk hn => ?_⟩
    exact (f2.block k (Nat.lt_of_lt_of_le hk f1.size) (fun e => hn (.inr e))).trans (f1.block k hk (fun e => hn (.inl (.inr e))))
  · rcases hk with hk | hk | hk
    · rcases hk with rfl | rfl | rfl | ⟨e, he, rfl⟩
      · exact .inl (.inl (.inl rfl))
      · exact .inl (.inl (.inr (.inl rfl)))
      · exact .inl (.inl (.inr (.inr (.inl rfl))))
      · rcases hE e he with ⟨e0, h0, h1⟩ | h1
        · exact .inl (.inl (.inr (.inr (.inr ⟨e0, h0, h1⟩))))
        · exact .inr h1
    · exact .inl (.inr (.inl hk))
    · rcases hb k hk with h1 | h1
      · exact .inl (.inr (.inr h1))
      · exact .inr (Nat.le_trans f1.size h1)

theorem PP.back {w w1 w2 : World} {D M L f P R base : Nat} {v : Value} {es : List En} (h : PP w1 D M L f P R base v es w2) (hb : Below w.heap.size w w1) (_h0 : PL w D M L f P R base v es) : PP w D M L f P R base v es w2 := by
  obtain ⟨v', es', h1, h2, h3, h4⟩ := h
  exact ⟨v', es', h1, (Fr.ofBelow (S := SP D M L R v es) hb).trans h2 (fun _ _ hk => hk), fun k hk => (h3 k hk).imp id (Nat.le_trans hb.size), h4⟩

/-- an Op as a value -/
def opv (kd : Int) (k : K) (v n : Int) (two : Bool) : Value := .agg #[.int .i64 kd, .int .i64 k.1, .int .i64 k.2, .int .i64 v, .int .i64 n, .bool two]
def opo (kd : Int) (k1 k2 : Int) (v n : Int) (two : Bool) : Obj := .cells #[.int .i64 kd, .int .i64 k1, .int .i64 k2, .int .i64 v, .int .i64 n, .bool two] 34 (0, 0)
theorem opo_cells {w : World} {b : Nat} {kd k1 k2 v n : Int} {two : Bool} (h : w.heap[b]? = some (opo kd k1 k2 v n two)) : w.cell? ⟨b, 1, none⟩ = some (.int .i64 k1) ∧ w.cell? ⟨b, 2, none⟩ = some (.int .i64 k2) ∧ w.cell? ⟨b, 3, none⟩ = some (.int .i64 v) ∧ w.cell? ⟨b, 4, none⟩ = some (.int .i64 n) := by
  simp only [World.cell?, h, opo]
  exact ⟨rfl, rfl, rfl, rfl⟩
def PlayOK (kd : Int) : Prop := ∀ (w : World) (D M L f P R base : Nat) (v : Value) (es : List En) (hh : K → Nat) (k : K) (x n : Int) (two : Bool), PL w D M L f P R base v es → PartOK f hh → (∀ k, hh k < 18446744073709551616) → KIn k → In64 x → es.length ≤ 3000000000000 →
  Calls Try.prog 11 #[ptr D, ptr R, opv kd k x n two, .int .u64 ((hh k : Nat) : Int)] w fun e w' => e = .returned (.bool true) ∧ PP w D M L f P R base v es w'

set_option maxRecDepth 100000 in
set_option maxHeartbeats 1000000 in
theorem play_get : PlayOK 2 := by
  intro w D M L f P R base v es hh k x n two h hok h64 hk hx hm
  obtain ⟨k1, k2⟩ := k
  have HB1 : Hid (Below w.heap.size w (w.alloc (opo 2 k1 k2 x n two))) := (Below.refl _ _).alloc (Nat.le_refl _) _
  have HX1 : Hid ((w.alloc (opo 2 k1 k2 x n two)).heap[w.heap.size]? = some (opo 2 k1 k2 x n two)) := heap_alloc_new _ _ rfl
  have HP : Hid (PL w D M L f P R base v es) := h
  have HK : Hid (KIn (k1, k2)) := hk
  clear h hok h64 hk hx
  unfold opv
  go_enter Try.func11, Try.ntmps11
  go_wp2_with fail
  generalize hW1 : w.alloc (.cells #[.int .i64 2, .int .i64 k1, .int .i64 k2, .int .i64 x, .int .i64 n, .bool two] 34) = W1 at *
  change Hid (Below w.heap.size w (w.alloc (.cells #[.int .i64 2, .int .i64 k1, .int .i64 k2, .int .i64 x, .int .i64 n, .bool two] 34))) at HB1
  change Hid ((w.alloc (.cells #[.int .i64 2, .int .i64 k1, .int .i64 k2, .int .i64 x, .int .i64 n, .bool two] 34)).heap[w.heap.size]? = some (opo 2 k1 k2 x n two)) at HX1
  rw [hW1] at HB1 HX1
  clear hW1
  refine (get_any W1 D M L P (hfn f) es (k1, k2) (HP.out.kept HB1.out).da HK.out).mono ?_
  rintro e w2 ⟨rfl, hb2⟩
  have HB2 : Hid (Below w.heap.size w w2) := HB1.out.trans (hb2.mono HB1.out.size)
  have HX2 : Hid (w2.heap[w.heap.size]? = some (opo 2 k1 k2 x n two)) := (hb2.block _ (blk_lt HX1.out)).trans HX1.out
  obtain ⟨o1, o2, o3, o4⟩ := opo_cells HX2.out
  clear hb2 HX1 HB1
  go_wp2_with fail
  refine (rget_any w2 base R P v es (k1, k2) (HP.out.kept HB2.out).ra (by omega)).mono ?_
  rintro e w3 ⟨rfl, hb3⟩
  have HB3 : Hid (Below w.heap.size w w3) := HB2.out.trans (hb3.mono HB2.out.size)
  clear hb3
  generalize vv (fd es (k1, k2)) = y
  generalize (fd es (k1, k2)).isSome = z
  go_wp2
  go_ret
  exact ⟨by cases z <;> simp, HP.out.quiet HB3.out⟩
set_option maxRecDepth 100000 in
set_option maxHeartbeats 1000000 in
theorem play_put : PlayOK 1 := by
  intro w D M L f P R base v es hh k x n two h hok h64 hk hx hm
  obtain ⟨k1, k2⟩ := k
  have HB1 : Hid (Below w.heap.size w (w.alloc (opo 1 k1 k2 x n two))) := (Below.refl _ _).alloc (Nat.le_refl _) _
  have HX1 : Hid ((w.alloc (opo 1 k1 k2 x n two)).heap[w.heap.size]? = some (opo 1 k1 k2 x n two)) := heap_alloc_new _ _ rfl
  have HP : Hid (PL w D M L f P R base v es) := h
  have HK : Hid (KIn (k1, k2) ∧ In64 x ∧ PartOK f hh ∧ ∀ k, hh k < 18446744073709551616) := ⟨hk, hx, hok, h64⟩
  clear h hok h64 hk hx
  unfold opv
  go_enter Try.func11, Try.ntmps11
  go_wp2_with fail
  generalize hW1 : w.alloc (.cells #[.int .i64 1, .int .i64 k1, .int .i64 k2, .int .i64 x, .int .i64 n, .bool two] 34) = W1 at *
  change Hid (Below w.heap.size w (w.alloc (.cells #[.int .i64 1, .int .i64 k1, .int .i64 k2, .int .i64 x, .int .i64 n, .bool two] 34))) at HB1
  change Hid ((w.alloc (.cells #[.int .i64 1, .int .i64 k1, .int .i64 k2, .int .i64 x, .int .i64 n, .bool two] 34)).heap[w.heap.size]? = some (opo 1 k1 k2 x n two)) at HX1
  rw [hW1] at HB1 HX1
  clear hW1
  have HP1 : Hid (PL W1 D M L f P R base v es) := HP.out.kept HB1.out
  have HXk : Hid (∀ W, Fr (Ft M L es) W1 W → W.heap[w.heap.size]? = some (opo 1 k1 k2 x n two)) := fun W hW => (hW.block _ (blk_lt HX1.out) (fun hf => by have := HP.out.lt (k := w.heap.size) (.inl (.inr hf)); omega)).trans HX1.out
  cases hc : fd es (k1, k2) with
  | some e0 =>
    refine (put_old W1 D M L P (hfn f) es (k1, k2) x HP1.out.da HK.out.1 HK.out.2.1 e0 hc).mono ?_
    rintro e w2 ⟨rfl, hd2, hf2⟩
    obtain ⟨o1, o2, o3, o4⟩ := opo_cells (HXk.out w2 hf2)
    have HD2 : Hid (DA w2 D M L (hfn f) P (es.map (ud (k1, k2) x)) ∧ Fr (Ft M L es) W1 w2) := ⟨hd2, hf2⟩
    clear hd2 hf2
    go_wp2_with fail
    refine (rput_old w2 base R P v es (k1, k2) x (hh (k1, k2)) (HP1.out.ra1 HD2.out.2) (by omega) HP1.out.da.kn e0 hc).mono ?_
    rintro e w3 ⟨rfl, hr3, hf3⟩
    have HF : Hid (PP W1 D M L f P R base v es w3) := HP1.out.step HD2.out.1 HD2.out.2 hr3 hf3 (fun k hk => .inl hk) (fun e he => by
      obtain ⟨e1, h1, rfl⟩ := List.mem_map.1 he
      exact .inl ⟨e1, h1, by unfold ud; split <;> rfl⟩) (by simp)
    clear hr3 hf3
    go_wp2
    go_ret
    exact ⟨by simp, HF.out.back HB1.out HP.out⟩
  | none =>
    refine (put_new W1 D M L P f hh HK.out.2.2.1 es (k1, k2) x HP1.out.da HK.out.1 HK.out.2.1 hc (by omega)).mono ?_
    rintro e w2 ⟨E, rfl, hd2, hE2, hf2⟩
    obtain ⟨o1, o2, o3, o4⟩ := opo_cells (HXk.out w2 hf2)
    have HD2 : Hid (DA w2 D M L (hfn f) P (es ++ [⟨E, (k1, k2), x, hh (k1, k2) % P⟩]) ∧ Fr (Ft M L es) W1 w2) := ⟨hd2, hf2⟩
    clear hd2 hf2
    go_wp2_with fail
    refine (rput_new w2 base R P v es (k1, k2) x (hh (k1, k2)) E (HP1.out.ra1 HD2.out.2) (Nat.le_trans HP1.out.bs HD2.out.2.size) (by omega) (HK.out.2.2.2 _) hc).mono ?_
    rintro e w3 ⟨rfl, v3, hr3, hf3, hw3⟩
    have HF : Hid (PP W1 D M L f P R base v es w3) := HP1.out.step HD2.out.1 HD2.out.2 hr3 hf3 hw3 (fun e he => by
      rcases List.mem_append.1 he with h1 | h1
      · exact .inl ⟨e, h1, rfl⟩
      · rw [List.mem_singleton] at h1; subst h1; exact .inr hE2) (by simp)
    clear hr3 hf3
    go_wp2
    go_ret
    exact ⟨by simp, HF.out.back HB1.out HP.out⟩
end Go.Proofs.Ytgaolpfpenaflaa
