import Derived.Test.YtiiplikmoodfnaaGreatDoorKARins
import Derived.Test.YtiiplikmoodfnaaGreatDoorKARend
import Derived.Test.YtiiplikmoodfnaaGreatDoorKARheadH
import Derived.Test.YtiiplikmoodfnaaGreatDoorKARd
/-
  THE WALK OF THE DOCUMENT's line.
-/
namespace Go.Proofs.YtiiplikmoodfnaaGreatDoor
open Go.RowKit Go.Sort

/-- the fault of a line is handed on -/
theorem RdPost.up {w w1 w2 : World} {M B f : Nat} {a : As} {Qs : List Pr} {nl : List (Nat × Nat)} {Lo : List K} {r : Rv} {res : Except (Nat × Nat × Int) As} {e : Ending} (h : DS w M B a Qs nl Lo r) (hf : f = w.heap.size) (hb : Go.RowKit.Below w.heap.size w w1) (hF : FB w1 f (.int .i64 0) (.int .i64 0) (.int .i64 0)) (hp : RdPost w1 M B r res e w2) :
    ∃ (l c : Nat) (n : Int), e = .returned (ftv (l : Int) (c : Int) n) ∧ FB w2 f (.int .i64 0) (.int .i64 0) (.int .i64 0) ∧ RdPost w M B r res (.returned (ftv (l : Int) (c : Int) n)) (((w2.setCell ⟨f, 0, none⟩ (.int .i64 (l : Int))).setCell ⟨f, 1, none⟩ (.int .i64 (c : Int))).setCell ⟨f, 2, none⟩ (.int .i64 n)) := by
  have hfl : f < w1.heap.size := (Array.getElem?_eq_some_iff.1 hF).1
  have hno : ¬ OO r w1.heap.size f := by
    rintro (hk | hk | hk | hk | hk | hk)
    · omega
    · have := (World.ownsRow.lt h.lib f hk).2; omega
    · have := (World.ownsRow.lt h.nms f hk).2; omega
    · have := (World.ownsRow.lt h.mks f hk).2; omega
    · have := (World.ownsRow.lt h.us f hk).2; omega
    · have := (h.cv f hk).2; omega
  have hfB : f ≠ B := by have := h.bm; omega
  have up : ∀ {W : World}, FrO (OO r w1.heap.size) B w1 W → FrO (OO r w.heap.size) B w W := fun hq => (FrO.bel hb).trans (hq.mono (fun k hk => by
    rcases hk with hk | hk
    · exact .inl (Nat.le_trans hb.size hk)
    · exact .inr hk))
  have ft : ∀ {W : World} (x y z : Value), FrO (OO r w.heap.size) B w W → FrO (OO r w.heap.size) B w (((W.setCell ⟨f, 0, none⟩ x).setCell ⟨f, 1, none⟩ y).setCell ⟨f, 2, none⟩ z) := fun x y z hq => hq.trans (fro_ft (.inl (Nat.le_of_eq hf.symm)) _ _ _)
  rcases hp with ⟨l, c, n, e1, e2, e3, e4⟩ | ⟨a', Qs', nl', Lo', r', e1, e2, e3, e4, e5, e6⟩
  · exact ⟨l, c, n, e3, (e4.block f hfl hfB hno).trans hF, .inl ⟨l, c, n, e1, e2, rfl, ft _ _ _ (up e4)⟩⟩
  · have hF2 := (e5.block f hfl hfB hno).trans hF
    refine ⟨0, 0, 0, e2, hF2, .inr ⟨a', Qs', nl', Lo', r', e1, rfl, e3.ft hF2 (fun g hg => ?_) _ _ _, e4, ft _ _ _ (up e5), fun g hg => ?_⟩⟩
    · rcases e6 g hg with h9 | h9
      · have := (World.ownsRow.lt h.nms g h9).2; omega
      · omega
    · rcases e6 g hg with h9 | h9
      · exact .inl h9
      · exact .inr (Nat.le_trans hb.size h9)
theorem lineR_in {a : As} {line : Nat} {x : Wd} {rest : List Wd} (h : a.opn = true) : lineA a line (x :: rest) = insideA a line (x :: rest) := by
  unfold lineA
  rw [if_neg (by simp), if_pos h]
theorem lineR_out {a : As} {line : Nat} {x : Wd} {rest : List Wd} (h : a.opn = false) : lineA a line (x :: rest) = hdRes a line (x :: rest) := by
  unfold lineA hdRes
  rw [if_neg (by simp), if_neg (by rw [h]; simp)]
  rfl
theorem last_byte (l : List UInt8) (h : l ≠ []) (h' : l.length - 1 < (S l).size) : (l.getLast? = some 58) ↔ ((((S l)[l.length - 1]'h').toNat : Int) == 58) = true := by
  have h2 : l.length - 1 < l.length := by have := List.length_pos_iff.2 h; omega
  have h1 : (S l)[l.length - 1]'h' = l[l.length - 1] := by
    show (l.toArray)[l.length - 1] = _
    simp
  rw [h1, List.getLast?_eq_getElem?, List.getElem?_eq_getElem h2]
  constructor
  · intro h2
    simp only [Option.some.injEq] at h2
    rw [h2]
    rfl
  · intro h2
    simp only [Option.some.injEq]
    have h3 : ((l[l.length - 1].toNat : Nat) : Int) = 58 := by simpa using h2
    exact UInt8.toNat_inj.1 (by show l[l.length - 1].toNat = 58; omega)
set_option maxRecDepth 100000 in
set_option maxHeartbeats 4000000 in
theorem line_any (w : World) (M B : Nat) (a : As) (Qs : List Pr) (nl : List (Nat × Nat)) (Lo : List K) (r : Rv) (b off n wcc k : Nat) (x : Wd) (rest : List Wd) (h : DS w M B a Qs nl Lo r) (hz : AsSz a k) (hw : ∀ j u, (wcs (x :: rest))[j]? = some u → w.cell? ⟨b, off + j, none⟩ = some u) (hn : n = (x :: rest).length) (hx0 : x.1 ≠ []) (hxl : ∀ y ∈ x :: rest, y.1.length ≤ 65536 ∧ y.2 ≤ 65537) (hnl : n ≤ 1000000) (hbM : b < M ∧ b ≠ B) :
    Calls Tryz.prog 10 #[.pointer (some ⟨B, 0, none⟩), .slice (some ⟨b, off, none⟩) n wcc] w fun e w' => RdPost w M B r (lineA a r.line (x :: rest)) e w' := by
  obtain ⟨w1, hw1⟩ : ∃ w1, w1 = w.alloc (.cells #[.int .i64 0, .int .i64 0, .int .i64 0] 24) := ⟨_, rfl⟩
  obtain ⟨f, hf⟩ : ∃ f, f = w.heap.size := ⟨_, rfl⟩
  have hM : M ≤ w.heap.size := h.bm.2
  have hb1 : Go.RowKit.Below w.heap.size w w1 := by rw [hw1]; exact bel_al _ _
  have hF : FB w1 f (.int .i64 0) (.int .i64 0) (.int .i64 0) := by rw [hw1, hf]; exact heap_alloc_new _ _ rfl
  have hw' : ∀ j u, (wcs (x :: rest))[j]? = some u → w1.cell? ⟨b, off + j, none⟩ = some u := fun j u hu => (hb1.cell (p := ⟨b, off + j, none⟩) (cell_lt (hw j u hu))).trans (hw j u hu)
  have h1 := h.below hb1
  have HUp : Hid (∀ (res : Except (Nat × Nat × Int) As) (e : Ending) (w2 : World), RdPost w1 M B r res e w2 → ∃ (l c : Nat) (n : Int), e = .returned (ftv (l : Int) (c : Int) n) ∧ FB w2 f (.int .i64 0) (.int .i64 0) (.int .i64 0) ∧ RdPost w M B r res (.returned (ftv (l : Int) (c : Int) n)) (((w2.setCell ⟨f, 0, none⟩ (.int .i64 (l : Int))).setCell ⟨f, 1, none⟩ (.int .i64 (c : Int))).setCell ⟨f, 2, none⟩ (.int .i64 n))) := fun res e w2 hp => RdPost.up h hf hb1 hF hp
  have d0 : w1.cell? ⟨b, off, none⟩ = some (.string (S x.1)) := (wd_at hw' 0 (by simp)).1
  have hn1 : 0 < n := by rw [hn]; simp
  have x2 : w1.cell? ⟨B, 2, none⟩ = some (.bool a.opn) := by rw [← h1.op]; exact h1.rx.cell 2
  have hlen : 1 ≤ x.1.length := List.length_pos_iff.2 hx0
  have hsz : (S x.1).size = x.1.length := S_size _
  have hxl0 : x.1.length ≤ 65536 := (hxl x (by simp)).1
  have htl : (S x.1).toList = x.1 := S_toList _
  have hxs : x.1.length - 1 < (S x.1).size := by rw [hsz]; omega
  have hlb := last_byte x.1 hx0 hxs
  have HD1 := hidA h1
  have HZ := hidA hz
  have HW' := hidA hw'
  have HN := hidA hn
  have HXl := hidA hxl
  have HX0 := hidA hx0
  clear h hz hw hn hxl hx0 hb1 hF hw' h1
  go_enter Tryz.func10, Tryz.ntmps10
  go_upto_region 1 with fail
  rw [← hw1, ← hf]
  clear hw1 hf
  cases hop : a.opn with
  | false =>
    have HC := hidA (head_any w1 M B a Qs nl Lo r b off n wcc (x :: rest) HD1.out hop HW'.out HN.out (by simp) HXl.out hnl hbM)
    rw [← lineR_out hop] at HC
    rw [hop] at x2
    clear hop htl hlb
    generalize S x.1 = sx at *
    go_wp2_with fail
    refine HC.out.mono ?_
    intro e w2 hp
    obtain ⟨l9, c9, n9, rfl, hF2, hres⟩ := HUp.out _ _ _ hp
    obtain ⟨⟨g0, g1, g2⟩, ⟨c0, c1, c2⟩, hst⟩ := ft_facts hF2
    have hld := load_fault (hst (.int .i64 (l9 : Int)) (.int .i64 (c9 : Int)) (.int .i64 n9))
    have HX := hidA hres
    clear hp hF2 hres hst HC HUp d0 x2
    go_wp2_with fail
    refine bodyPost_ret (v := ftv (l9 : Int) (c9 : Int) n9) ?_ rfl ?_
    · simp [results, Tryz.results10, asAddr, hld]
    · exact HX.out
  | true =>
    have HIe := hidA (inside_eq a r.line x rest)
    have HLa := hidA (lineR_in (line := r.line) (x := x) (rest := rest) hop)
    rw [HIe.out] at HLa
    rw [hop] at x2
    by_cases hen : x.1 = endL
    · have HC := hidA (rend_any w1 M B a Qs nl Lo r b off n wcc k x rest HD1.out HZ.out hop HW'.out HN.out)
      rw [show endA a r.line rest = lineA a r.line (x :: rest) by rw [HLa.out, if_pos hen]] at HC
      have he : ((S x.1).toList == [101, 110, 100]) = true := by rw [htl, hen]; rfl
      clear hop htl hlb HLa HIe hen
      generalize S x.1 = sx at *
      go_wp2_with fail
      refine HC.out.mono ?_
      intro e w2 hp
      obtain ⟨l9, c9, n9, rfl, hF2, hres⟩ := HUp.out _ _ _ hp
      obtain ⟨⟨g0, g1, g2⟩, ⟨c0, c1, c2⟩, hst⟩ := ft_facts hF2
      have hld := load_fault (hst (.int .i64 (l9 : Int)) (.int .i64 (c9 : Int)) (.int .i64 n9))
      have HX := hidA hres
      clear hp hF2 hres hst HC HUp d0 x2
      go_wp2_with fail
      refine bodyPost_ret (v := ftv (l9 : Int) (c9 : Int) n9) ?_ rfl ?_
      · simp [results, Tryz.results10, asAddr, hld]
      · exact HX.out
    · have he : ((S x.1).toList == [101, 110, 100]) = false := by rw [htl]; simpa [endL] using hen
      by_cases hcl : x.1.getLast? = some 58
      · obtain ⟨co, cc, hcd, _⟩ := own_slice (HD1.out.oc hop).1
        have HC : Hid (Calls Tryz.prog 21 #[.pointer (some ⟨B, 0, none⟩), .slice (some ⟨b, off, none⟩) n wcc] w1 fun e w' => RdPost w1 M B r (lineA a r.line (x :: rest)) e w') := by
          refine (label_any w1 M B r b off n wcc x rest a.labels co Lo.length cc HD1.out.rx HW'.out HN.out HX0.out hxl0 HD1.out.mks (Nat.le_trans HZ.out.lab HZ.out.top) hcd HD1.out.bm.2).mono ?_
          rintro e w2 (⟨er, q1, q2, q3⟩ | ⟨q1, q2, v', q3, q4, q5⟩)
          · refine .inl ⟨r.line, er.1, er.2, ?_, ?_, q2, FrO.bel q3⟩
            · rw [HLa.out, if_neg hen, if_pos hcl]; unfold labA; rw [q1]
            · have : er.2 = 40 ∨ er.2 = 43 := by
                unfold labE at q1
                split at q1
                · cases q1; exact .inl rfl
                · split at q1
                  · cases q1; exact .inr rfl
                  · unfold rEnd at q1
                    split at q1
                    · cases q1
                    · cases q1; exact .inl rfl
              omega
          · refine .inr ⟨_, Qs, nl, Lo, _, ?_, q2, HD1.out.lab q3 q4 q5, rfl, q5.fro (fun g hg => .inr (.inr (.inr (.inl hg)))), fun g hg => .inl hg⟩
            rw [HLa.out, if_neg hen, if_pos hcl]; unfold labA; rw [q1, HD1.out.lastP hop]
        have hbt := hlb.1 hcl
        clear hop htl hlb HLa HIe hen hcl hcd
        generalize S x.1 = sx at *
        generalize x.1.length = xl at *
        go_wp2_with fail
        refine HC.out.mono ?_
        intro e w2 hp
        obtain ⟨l9, c9, n9, rfl, hF2, hres⟩ := HUp.out _ _ _ hp
        obtain ⟨⟨g0, g1, g2⟩, ⟨c0, c1, c2⟩, hst⟩ := ft_facts hF2
        have hld := load_fault (hst (.int .i64 (l9 : Int)) (.int .i64 (c9 : Int)) (.int .i64 n9))
        have HX := hidA hres
        clear hp hF2 hres hst HC HUp d0 x2
        go_wp2_with fail
        refine bodyPost_ret (v := ftv (l9 : Int) (c9 : Int) n9) ?_ rfl ?_
        · simp [results, Tryz.results10, asAddr, hld]
        · exact HX.out
      · have HC := hidA (instr_any w1 M B a Qs nl Lo r b off n wcc k x rest HD1.out HZ.out hop HW'.out HN.out HXl.out hbM)
        rw [show insA a r.line x rest = lineA a r.line (x :: rest) by rw [HLa.out, if_neg hen, if_neg hcl]] at HC
        have hbt : ((((S x.1)[x.1.length - 1]'hxs).toNat : Int) == 58) = false := by
          cases e : ((((S x.1)[x.1.length - 1]'hxs).toNat : Int) == 58) with
          | false => rfl
          | true => exact absurd (hlb.2 e) hcl
        clear hop htl hlb HLa HIe hen hcl
        generalize S x.1 = sx at *
        generalize x.1.length = xl at *
        go_wp2_with fail
        refine HC.out.mono ?_
        intro e w2 hp
        obtain ⟨l9, c9, n9, rfl, hF2, hres⟩ := HUp.out _ _ _ hp
        obtain ⟨⟨g0, g1, g2⟩, ⟨c0, c1, c2⟩, hst⟩ := ft_facts hF2
        have hld := load_fault (hst (.int .i64 (l9 : Int)) (.int .i64 (c9 : Int)) (.int .i64 n9))
        have HX := hidA hres
        clear hp hF2 hres hst HC HUp d0 x2
        go_wp2_with fail
        refine bodyPost_ret (v := ftv (l9 : Int) (c9 : Int) n9) ?_ rfl ?_
        · simp [results, Tryz.results10, asAddr, hld]
        · exact HX.out
end Go.Proofs.YtiiplikmoodfnaaGreatDoor
/-
  THE DOCUMENT's Assemble: what it stands on.
-/
namespace Go.Proofs.YtiiplikmoodfnaaGreatDoor
open Go.RowKit Go.Sort

theorem piece_len (l : List UInt8) {f k : Nat} (hf : f < k) (hk : k ≤ l.length) : pieceL l f k ≠ [] := fun e => by
  have h := congrArg List.length e
  unfold pieceL at h
  rw [List.length_drop, List.length_take] at h
  simp at h
  omega
theorem rw_ne (l : List UInt8) : ∀ k, k ≤ l.length → ∀ y ∈ (rwAt l k).1, y.1 ≠ []
  | 0, _, y, h => by simp [rwAt] at h
  | k + 1, hk, y, h => by
    have ih := rw_ne l k (by omega)
    unfold rwAt at h
    split at h
    · unfold rwE at h
      split at h
      · exact ih y h
      · rename_i f hf
        rcases List.mem_append.1 h with h | h
        · exact ih y h
        · simp only [List.mem_singleton] at h
          rw [h]
          exact piece_len l (rwAt_lt l k f hf) (by omega)
    · split at h <;> exact ih y h
theorem words_ne (l : List UInt8) : ∀ y ∈ wordsN l, y.1 ≠ [] := fun y h => by
  unfold wordsN rwE at h
  split at h
  · exact rw_ne l _ (hashN_le l) y h
  · rename_i f hf
    rcases List.mem_append.1 h with h | h
    · exact rw_ne l _ (hashN_le l) y h
    · simp only [List.mem_singleton] at h
      rw [h]
      exact piece_len l (rwAt_lt l _ f hf) (hashN_le l)
theorem ct_words (l : List UInt8) : ∀ k, ∀ ws ∈ (ctAt l k).1, ∃ p, ws = wordsN p
  | 0, ws, h => by simp [ctAt] at h
  | k + 1, ws, h => by
    unfold ctAt at h
    split at h
    · rcases List.mem_append.1 h with h | h
      · exact ct_words l k ws h
      · simp only [List.mem_singleton] at h
        exact ⟨_, h⟩
    · exact ct_words l k ws h
theorem cut_in (l : List UInt8) : ∀ ws ∈ cutN l, (∃ p, ws = wordsN p) ∧ ws ∈ splitN l := fun ws h => by
  rw [split_cut l]
  unfold cutN at h
  split at h
  · refine ⟨?_, h⟩
    rcases List.mem_append.1 h with h | h
    · exact ct_words l _ ws h
    · simp only [List.mem_singleton] at h
      exact ⟨_, h⟩
  · exact ⟨ct_words l _ ws h, List.mem_append_left _ h⟩
theorem cut_ok (l : List UInt8) (hl : l.length ≤ 65536) : ∀ ws ∈ cutN l, (∀ y ∈ ws, y.1 ≠ []) ∧ (∀ y ∈ ws, y.1.length ≤ 65536 ∧ y.2 ≤ 65537) ∧ ws.length ≤ 1000000 := fun ws h => by
  obtain ⟨⟨p, hp⟩, h2⟩ := cut_in l ws h
  obtain ⟨h3, h4⟩ := split_small l hl ws h2
  obtain ⟨h5, h6⟩ := (sc_in l (l.length + 1) (Nat.le_refl _)).2 ws h2
  exact ⟨fun y hy => words_ne p y (hp ▸ hy), fun y hy => ⟨h4 y hy, by have := h5 y hy; unfold WIn at this; omega⟩, h3.2⟩
theorem cut_few (l : List UInt8) : (cutN l).length ≤ l.length + 1 := by
  have h := split_few l
  rw [split_cut l] at h
  unfold cutN
  split
  · exact h
  · rw [List.length_append] at h; omega
/-- the reader begins -/
def rv0 : Rv := ⟨.slice none 0 0, .slice none 0 0, false, (0, 0), ⟨0, 0, 0, 0⟩, .slice none 0 0, [], (0, 0), .slice none 0 0, .slice none 0 0, 0⟩
theorem DS.start {W : World} {M B : Nat} (hx : RX W B rv0) (hb : B < M) (hM : M ≤ W.heap.size) : DS W M B start0 [] [] [] rv0 :=
  ⟨hx, rfl, rfl, ⟨rfl, .inl ⟨rfl, rfl⟩⟩, rfl, fun x hx => (by cases hx), List.Pairwise.nil, ⟨rfl, .inl ⟨rfl, rfl⟩⟩, rfl, ⟨rfl, .inl ⟨rfl, rfl⟩⟩, ⟨rfl, .inl ⟨rfl, rfl⟩⟩, fun e => (by cases e), fun x hx => (by cases hx), fun e => (by cases e), ⟨hb, hM⟩, fun g hg => (by cases hg)⟩
theorem FrO.fra {W W' : World} {M B : Nat} {a : As} {Qs : List Pr} {nl : List (Nat × Nat)} {Lo : List K} {r : Rv} (h : DS W M B a Qs nl Lo r) (hf : FrO (OO r W.heap.size) B W W') : FrA M B W W' :=
  ⟨hf.os, hf.tape, hf.output, hf.size, fun k hk h1 => hf.block k (by have := h.bm.2; omega) h1 (fun e => by have := h.oo e; omega)⟩
theorem DS.libAt {W : World} {M B k : Nat} {a : As} {Qs : List Pr} {nl : List (Nat × Nat)} {Lo : List K} {r : Rv} {ao : Option Addr} {n cap : Nat} (h : DS W M B a Qs nl Lo r) (hz : AsSz a k) (hl : r.lib = .slice ao n cap) : LibAt W ao Qs := by
  refine ⟨?_, fun x hx => ?_⟩
  · have h0 := h.lib
    rw [hl] at h0
    obtain ⟨ao', cap', e, hp, _⟩ := h0.slice
    cases e
    exact hp
  · obtain ⟨h1, h2⟩ := h.code x hx
    obtain ⟨h3, h4, h5⟩ := h.ok x hx
    have h6 : x.L.length ≤ 65537 := Nat.le_trans (hz.code (ppOf x) (by rw [h.eq]; exact List.mem_append_left _ (List.mem_map_of_mem hx))) hz.top
    refine ⟨h1, ?_, h3, h4, fun e => ?_, by omega, by omega⟩
    · rcases own_at h2 with h7 | ⟨g, cap', e, hc⟩
      · refine .inl ?_
        cases hL : x.L with
        | nil => rfl
        | cons y L => rw [hL] at h7; simp [cks] at h7
      · unfold cdV at e
        simp only [Value.slice.injEq] at e
        exact .inr ⟨g, 0, e.1, hc⟩
    · obtain ⟨ao', cap', e1, e2, _⟩ := own_slice h2
      unfold cdV at e1
      simp only [Value.slice.injEq] at e1
      have := (e2 (by rw [← e1.1]; exact e)).1
      rw [e1.2.2]; exact this
/-- what the document's Assemble leaves -/
def RAsmPost (W : World) (l : List UInt8) (e : Ending) (w' : World) : Prop :=
  (∃ E, e = .returned (.tuple #[.slice none 0 0, ftv (E.1 : Int) (E.2.1 : Int) E.2.2]) ∧ linesA (cutN l) (cutN l).length = .error E ∧ Go.RowKit.Below W.heap.size W w') ∨
  (∃ a, linesA (cutN l) (cutN l).length = .ok a ∧ Go.RowKit.Below W.heap.size W w' ∧
    ((e = .returned (.tuple #[.slice none 0 0, ftv (a.begun.1 : Int) (a.begun.2 : Int) 45]) ∧ a.opn = true) ∨
     (∃ Qs : List Pr, e = .returned (.tuple #[.slice none 0 0, ftv ((a.names.getD (checkN Qs).1 (0, 0)).1 : Int) ((a.names.getD (checkN Qs).1 (0, 0)).2 : Int) (checkN Qs).2]) ∧ a.opn = false ∧ a.lib = Qs.map ppOf ∧ (checkN Qs).2 ≠ 0) ∨
     (∃ M B Qs nl Lo r, e = .returned (.tuple #[r.lib, ftv 0 0 0]) ∧ a.opn = false ∧ (checkN Qs).2 = 0 ∧ DS w' M B a Qs nl Lo r ∧ W.heap.size ≤ B)))
theorem belF {w w3 W : World} {M B : Nat} (q : Go.RowKit.Below w.heap.size w w3) (h : FrA M B w3 W) (hB : w.heap.size ≤ B) (hM : B < M) : Go.RowKit.Below w.heap.size w W :=
  ⟨h.os.trans q.os, h.tape.trans q.tape, h.output.trans q.output, Nat.le_trans q.size h.size, fun k hk => (h.block k (by omega) (by omega)).trans (q.block k hk)⟩
theorem cell_ft {W : World} {f g j : Nat} {x y z v : Value} (h : g ≠ f) (hc : W.cell? ⟨g, j, none⟩ = some v) : (((W.setCell ⟨f, 0, none⟩ x).setCell ⟨f, 1, none⟩ y).setCell ⟨f, 2, none⟩ z).cell? ⟨g, j, none⟩ = some v := by
  have e : (((W.setCell ⟨f, 0, none⟩ x).setCell ⟨f, 1, none⟩ y).setCell ⟨f, 2, none⟩ z).heap[g]? = W.heap[g]? := (heap_setCell_other _ _ _ _ h).trans ((heap_setCell_other _ _ _ _ h).trans (heap_setCell_other _ _ _ _ h))
  simp only [World.cell?] at hc ⊢
  rw [e]
  exact hc
end Go.Proofs.YtiiplikmoodfnaaGreatDoor
