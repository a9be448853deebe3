import Derived.Test.YtlilaicgmdbhcaaDoorJ29
import Derived.Test.YtlilaicgmdbhcaaDoorJ11
import Derived.Test.YtlilaicgmdbhcaaDoorJ27
import Derived.Test.YtlilaicgmdbhcaaDoorJ12
/-
  THE WALK OF preluderef06.Decode.
-/
namespace Go.Proofs.YtlilaicgmdbhcaaDoor.Kk
open Go.RowKit Go.Sort

/-- the document's Reader of a batch's bytes, and what was read of it -/
structure TM (w W : World) (ad : Option Addr) (c : Nat) (b : List Nat) (p : Nat) (e : Int) (v : Value) (Qs : List Bx) : Prop where
  rd : IsMod W w.heap.size ad c b p e
  bel : Below w.heap.size w W
  own : OwnT W (w.heap.size + 1) v Qs
  ok : ∀ x ∈ Qs, TxC W (w.heap.size + 1) x
  ap : ∀ x ∈ Qs, ∀ g, xb x g → v.ownBlock ≠ some g
  arg : ∀ x, b ≠ [] → ad = some x → x.block < w.heap.size
theorem TM.step {w W W' : World} {ad : Option Addr} {c : Nat} {b : List Nat} {p p2 : Nat} {e e2 : Int} {v : Value} {Qs : List Bx} (h : TM w W ad c b p e v Qs) (hr : Mods W w.heap.size ad c b p2 e2 W') : TM w W' ad c b p2 e2 v Qs := by
  have hne : ∀ g, w.heap.size + 1 ≤ g → some g ≠ some w.heap.size := fun g hg e => by cases e; omega
  refine ⟨hr.1, ?_, h.own.same fun g hg => hr.2.block g (h.own.lt g hg).2 (hne g (h.own.lt g hg).1), fun x hx => (h.ok x hx).same fun g hg => hr.2.block g ((h.ok x hx).lt hg).2 (hne g ((h.ok x hx).lt hg).1), h.ap, h.arg⟩
  exact ⟨hr.2.os.trans h.bel.os, hr.2.tape.trans h.bel.tape, hr.2.output.trans h.bel.output, Nat.le_trans h.bel.size hr.2.size, fun k hk => by
    rw [hr.2.block k (Nat.lt_of_lt_of_le hk h.bel.size) (fun e => by cases e; omega)]; exact h.bel.block k hk⟩
theorem TM.kept {w W W' : World} {ad : Option Addr} {c : Nat} {b : List Nat} {p : Nat} {e : Int} {v : Value} {Qs : List Bx} (h : TM w W ad c b p e v Qs) (hb : Below W.heap.size W W') : TM w W' ad c b p e v Qs :=
  ⟨h.rd.kept hb, h.bel.trans (hb.mono h.bel.size), h.own.kept hb, fun x hx => (h.ok x hx).kept hb, h.ap, h.arg⟩
theorem TM.put {w W W' : World} {ad : Option Addr} {c : Nat} {b : List Nat} {p S : Nat} {e : Int} {v v' : Value} {Qs : List Bx} {x : Bx} (h : TM w W ad c b p e v Qs) (hx : TxC W S x) (h2 : ∀ g, v.ownBlock = some g → g < S) (h3 : w.heap.size + 1 ≤ S)
    (ho : OwnT W' (w.heap.size + 1) v' (Qs ++ [x])) (hg : W.grownBy W' v.ownBlock) (hv : v'.ownBlock = v.ownBlock ∨ v'.ownBlock = some W.heap.size) : TM w W' ad c b p e v' (Qs ++ [x]) := by
  have hvb : ∀ k, v.ownBlock = some k → w.heap.size + 1 ≤ k := fun k hk => (h.own.lt k hk).1
  have hs : ∀ g, g < W.heap.size → v.ownBlock ≠ some g → W'.heap[g]? = W.heap[g]? := fun g hl hn => hg.block g hl (fun e => hn e.symm)
  have hxc : TxC W' (w.heap.size + 1) x := (hx.same (W' := W') fun g hg' => hs g (hx.lt hg').2 fun e => by have := h2 g e; have := (hx.lt hg').1; omega).mono h3
  refine ⟨?_, ?_, ho, ?_, ?_, h.arg⟩
  · refine h.rd.grown hg (fun e => ?_) (fun k hk y hb hy => ?_)
    · have := hvb _ e; omega
    · have := hvb k hk
      have := h.arg y hb hy
      omega
  · exact ⟨hg.os.trans h.bel.os, hg.tape.trans h.bel.tape, hg.output.trans h.bel.output, Nat.le_trans h.bel.size hg.size, fun k hk => by
      rw [hs k (Nat.lt_of_lt_of_le hk h.bel.size) (fun e => by have := hvb k e; omega)]; exact h.bel.block k hk⟩
  · intro y hy
    rcases List.mem_append.1 hy with hy | hy
    · exact (h.ok y hy).same fun g hg' => hs g ((h.ok y hy).lt hg').2 (h.ap y hy g hg')
    · simp at hy; subst hy; exact hxc
  · intro y hy g hg' e
    have hgl : g < W.heap.size := by
      rcases List.mem_append.1 hy with hy | hy
      · exact ((h.ok y hy).lt hg').2
      · simp at hy; subst hy; exact (hx.lt hg').2
    rcases hv with hv | hv
    · rw [hv] at e
      rcases List.mem_append.1 hy with hy | hy
      · exact h.ap y hy g hg' e
      · simp at hy; subst hy
        have := h2 g e
        have := (hx.lt hg').1
        omega
    · rw [hv] at e; cases e; omega
/-- what the document's Decode answers -/
def RPostB (w : World) (b : List Nat) (e' : Ending) (W : World) : Prop :=
  Below w.heap.size w W ∧ match decR b with
  | .ok Ts => ∃ Qs ao cap, Qs.map Bx.t = Ts ∧ e' = .returned (.tuple #[.slice ao Qs.length cap, .int .i64 0, .int .i64 0]) ∧ OwnT W (w.heap.size + 1) (.slice ao Qs.length cap) Qs ∧ ∀ x ∈ Qs, TxC W (w.heap.size + 1) x
  | .error (q, x) => e' = .returned (.tuple #[.slice none 0 0, .int .i64 (q : Int), .int .i64 x])
theorem decR_bad {b : List Nat} {rest : Rd (List Tp)} {q : Nat} {x : Int} (h : St (batR b 0) rest q x) (hx : x ≠ 0) : decR b = .error (q, x) := by
  unfold decR; rw [h.bad hx]
theorem decR_end {b : List Nat} {T : List Tp} {q : Nat} (h : St (batR b 0) (.ok (T, q)) q 0) : decR b = if q = b.length then .ok T else .error (q, 11) := by
  unfold decR; rw [h.zero]

set_option maxRecDepth 100000 in
set_option maxHeartbeats 2000000 in
theorem refDecB_any (w : World) (ao : Option Addr) (n cap : Nat) (b : List Nat) (h : BytesAt w ao b) (hn : n = b.length) (hm : n ≤ 140737488355328) (hlc : n ≤ cap) (hcm : cap ≤ maxLen) (hnil : ao = none → cap = 0) :
    Calls Tryd.prog 6 #[.slice ao n cap] w fun e w' => RPostB w b e w' := by
  have HM0 : Hid (TM w (w.alloc (.cells #[.slice ao n cap, .int .i64 0, .int .i64 0] 56)) ao cap b 0 0 (.slice none 0 0) []) := by
    refine ⟨⟨?_, h.kept ((Below.refl _ _).alloc (Nat.le_refl _) _), Nat.zero_le _, by omega, by omega, hcm, hnil, fun x hb hx => ?_⟩, (Below.refl _ _).alloc (Nat.le_refl _) _, OwnT.nil _ _, (fun x hx => by cases hx), (fun x hx => by cases hx), fun x hb hx => h.lt x hb hx⟩
    · rw [hn]; exact heap_alloc_new _ _ rfl
    · have := h.lt x hb hx; omega
  clear h hn hlc hcm hnil
  go_enter Tryd.func6, Tryd.ntmps6
  go_wp2_with fail
  generalize w.alloc (.cells #[.slice ao n cap, .int .i64 0, .int .i64 0] 56) = w1 at *
  obtain ⟨⟨m, q0, f0⟩, hx0⟩ : ∃ x, x = rdUpto b 0 0 64 := ⟨_, rfl⟩
  have HX0 : Hid (rdUpto b 0 0 64 = (m, q0, f0)) := hx0.symm
  have hm64 : m ≤ 64 := by have := rdUpto_le b 0 0 64; rw [HX0.out] at this; exact this
  have HS0 : Hid (St (batR b 0) (txsR b m [] q0) q0 f0) := by
    have := St.up (R := batR b 0) (f := fun x => txsR b x.1 [] x.2) (batR_def b 0)
    rw [HX0.out] at this
    exact this
  clear hx0
  refine (uUpto_any w1 _ _ _ b 0 0 64 HM0.out.rd).mono ?_
  rintro e1 w2 ⟨rfl, hr2⟩
  rw [HX0.out] at hr2 ⊢
  have HM2 : Hid (TM w w2 ao cap b q0 f0 (.slice none 0 0) []) := HM0.out.step hr2
  clear hr2 HM0 HX0
  go_wp2_with fail
  go_loopw [7, 8] (fun v i wr => ∃ k : Nat, k ≤ m ∧ i = .int .u64 (k : Int) ∧ ∃ av cv q x Qs, v = .slice av k cv ∧ Hid (TM w wr ao cap b q x (.slice av k cv) Qs) ∧ Hid (Qs.length = k ∧ St (batR b 0) (txsR b (m - k) (Qs.map Bx.t) q) q x)) (fun _ i _ => m - (intOf i).toNat)
  case atStart => exact ⟨0, Nat.zero_le _, rfl, none, 0, q0, f0, [], rfl, HM2, rfl, HS0.out⟩
  case round =>
    clear HM2 HS0
    obtain ⟨k, hk, rfl, av, cv, q, x, Qs, rfl, HM, HS⟩ := hrel
    have x2 := HM.out.rd.c2
    by_cases hlt : k < m
    · have hlt' : (k : Int) < (m : Int) := by omega
      by_cases he : x = 0
      · subst he
        have HLn : Hid (Qs.length = k) := HS.out.1
        go_wp2_with fail
        refine (refOne_any wr _ _ _ b q HM.out.rd).mono ?_
        rintro e1 w3 ⟨y, q3, x3, rfl, htc, hr3, hs3⟩
        have HS3 : Hid (St (batR b 0) (txsR b (m - (k + 1)) (Qs.map Bx.t ++ [y.t]) q3) q3 x3) := by
          have h2 := HS.out.2.zero
          rw [show m - k = (m - (k + 1)) + 1 by omega, txsR_step] at h2
          rcases hs3 with ⟨h3, h4⟩ | ⟨h3, h4⟩
          · rw [h4] at h2
            exact .inl ⟨h3, h2⟩
          · rw [h4] at h2
            exact .inr ⟨h3, h2⟩
        have HM3 : Hid (TM w w3 ao cap b q3 x3 (.slice av k cv) Qs) := HM.out.step hr3
        have HUn : Hid ((∀ g, (Value.slice av k cv).ownBlock = some g → g < wr.heap.size) ∧ w.heap.size + 1 ≤ wr.heap.size) := ⟨fun g hg => (HM.out.own.lt g hg).2, by have := HM.out.rd.lt; omega⟩
        have HTC : Hid (TxC w3 wr.heap.size y) := htc
        clear htc hr3 hs3 HM HS x2
        obtain ⟨⟨pr, A, R, V⟩, aA, cA, aR, cR, aV, cV⟩ := y
        simp only at HS3
        have HBl : Below w3.heap.size w3 (w3.alloc (.cells #[.int .i64 pr, .slice aA A.length cA, .slice aR R.length cR, .slice aV V.length cV] 62)) := (Below.refl _ _).alloc (Nat.le_refl _) _
        have HM4 : Hid (TM w (w3.alloc (.cells #[.int .i64 pr, .slice aA A.length cA, .slice aR R.length cR, .slice aV V.length cV] 62)) ao cap b q3 x3 (.slice av k cv) Qs) := HM3.out.kept HBl
        have HT4 : Hid (TxC (w3.alloc (.cells #[.int .i64 pr, .slice aA A.length cA, .slice aR R.length cR, .slice aV V.length cV] 62)) wr.heap.size ⟨⟨pr, A, R, V⟩, aA, cA, aR, cR, aV, cV⟩) := HTC.out.kept HBl
        have HB4 : Hid ((w3.alloc (.cells #[.int .i64 pr, .slice aA A.length cA, .slice aR R.length cR, .slice aV V.length cV] 62)).heap[w3.heap.size]? = some (.cells #[.int .i64 pr, .slice aA A.length cA, .slice aR R.length cR, .slice aV V.length cV] 62 (0, 0))) := heap_alloc_new _ _ rfl
        clear HBl HM3 HTC
        go_upto_region 8 with fail
        generalize w3.alloc (.cells #[.int .i64 pr, .slice aA A.length cA, .slice aR R.length cR, .slice aV V.length cV] 62) = w4 at *
        generalize w3.heap.size = B4 at *
        obtain ⟨z0, z1, z2, z3⟩ := box4 HB4.out
        go_wp2_with (at_builtin; refine wpList_append_txs rfl _ _ rfl (w.heap.size + 1) (.slice av k cv) Qs rfl (HM4.out.own.alloc _) _ 1 1 [⟨⟨pr, A, R, V⟩, aA, cA, aR, cR, aV, cV⟩] rfl rfl (tx_src w4 _ ⟨⟨pr, A, R, V⟩, aA, cA, aR, cR, aV, cV⟩ rfl) (by have := HLn.out; simp; omega) (by have := HM4.out.rd.lt; simp only [World.size_alloc]; omega) ?_; intro v8 w8 ho8 hg8 hv8)
        have HM8 : Hid (TM w w8 ao cap b q3 x3 v8 (Qs ++ [⟨⟨pr, A, R, V⟩, aA, cA, aR, cR, aV, cV⟩])) :=
          (HM4.out.kept ((Below.refl _ _).alloc (Nat.le_refl _) _)).put (HT4.out.kept ((Below.refl _ _).alloc (Nat.le_refl _) _)) HUn.out.1 HUn.out.2 ho8 hg8 hv8
        obtain ⟨a8, c8, rfl, _, _, _⟩ := ho8.slice
        have hl8 : (Qs ++ [(⟨⟨pr, A, R, V⟩, aA, cA, aR, cR, aV, cV⟩ : Bx)]).length = k + 1 := by rw [List.length_append, HLn.out]; rfl
        rw [hl8] at HM8 ⊢
        have HS8 : Hid ((Qs ++ [(⟨⟨pr, A, R, V⟩, aA, cA, aR, cR, aV, cV⟩ : Bx)]).length = k + 1 ∧ St (batR b 0) (txsR b (m - (k + 1)) ((Qs ++ [(⟨⟨pr, A, R, V⟩, aA, cA, aR, cR, aV, cV⟩ : Bx)]).map Bx.t) q3) q3 x3) := ⟨hl8, by rw [List.map_append]; exact HS3.out⟩
        clear ho8 hg8 hv8 hl8 HM4 HT4 HB4 HUn HS3 HLn z0 z1 z2 z3
        go_wp2
        go_roundw
        case rel => exact ⟨k + 1, by omega, by go_num, a8, c8, q3, x3, _, rfl, HM8, HS8⟩
        case measure => simp [intOf]; omega
      · have he' : (x == 0) = false := by simpa using he
        have HLn : Hid (Qs.length = k) := HS.out.1
        have HS2 : Hid (St (batR b 0) (.ok (Qs.map Bx.t, q)) q x) := HS.out.2.more he
        clear HS
        go_wp2_with fail
        refine (uEnd_any wr _ _ _ b q x HM.out.rd).mono ?_
        rintro e1 w9 ⟨rfl, nq, hq⟩
        have HM9 : Hid (TM w w9 ao cap b q x (.slice av k cv) Qs) := by rw [hq]; exact HM.out.kept ⟨rfl, rfl, rfl, Nat.le_refl _, fun _ _ => rfl⟩
        have hqb := HM.out.rd.2.2.1
        clear hq HM x2
        have d1 := HM9.out.rd.c1
        by_cases hE : rdEnd b q x = 0
        · have HFF : Hid (RPostB w b (.returned (.tuple #[.slice av k cv, .int .i64 0, .int .i64 0])) w9) := by
            refine ⟨HM9.out.bel, ?_⟩
            have hx : x = 0 ∧ q = b.length := by
              unfold rdEnd at hE
              split at hE
              · cases hE
              · rename_i hh; exact ⟨hE, by have : ¬ (q < b.length) := fun h => hh ⟨hE, h⟩; omega⟩
            have h2 := HS2.out
            rw [hx.1] at h2
            rw [decR_end h2, if_pos hx.2]
            exact ⟨Qs, av, cv, rfl, by rw [HLn.out], by rw [HLn.out]; exact HM9.out.own, HM9.out.ok⟩
          rw [hE]
          clear hE HM9 HS2 HLn
          go_wp2
          refine bodyPost_ret (v := .tuple #[.slice av k cv, .int .i64 0, .int .i64 0]) ?_ rfl HFF.out
          simp [results, Tryd.results6]
        · have HFF : Hid (∀ t, RPostB w b (.returned (.tuple #[.slice none 0 0, .int .i64 (q : Int), .int .i64 (rdEnd b q x)])) (w9.drewN t)) := by
            intro t
            have hbel := HM9.out.bel
            refine ⟨⟨hbel.os, hbel.tape, hbel.output, hbel.size, hbel.block⟩, ?_⟩
            have h2 := HS2.out
            by_cases hx : x = 0
            · subst hx
              have hq2 : q < b.length := by
                unfold rdEnd at hE
                split at hE
                · rename_i hh; exact hh.2
                · exact absurd rfl hE
              have hr : rdEnd b q 0 = 11 := by unfold rdEnd; rw [if_pos ⟨rfl, hq2⟩]
              rw [decR_end h2, if_neg (by omega), hr]
            · have hr : rdEnd b q x = x := by unfold rdEnd; rw [if_neg (fun h => hx h.1)]
              rw [decR_bad h2 hx, hr]
          have hE' : (rdEnd b q x != 0) = true := by simpa using hE
          clear HM9 HS2 HLn hE
          generalize rdEnd b q x = ee at *
          go_wp2_with fail
          go_quiet (fail)
          have HF2 := HFF.out nq
          go_wp2
          refine bodyPost_ret (v := .tuple #[.slice none 0 0, .int .i64 (q : Int), .int .i64 ee]) ?_ rfl HF2
          simp [results, Tryd.results6]
    · obtain rfl : k = m := by omega
      have HLn : Hid (Qs.length = k) := HS.out.1
      have HS2 : Hid (St (batR b 0) (.ok (Qs.map Bx.t, q)) q x) := by
        have := HS.out.2
        rw [Nat.sub_self] at this
        exact this
      clear HS
      go_wp2_with fail
      refine (uEnd_any wr _ _ _ b q x HM.out.rd).mono ?_
      rintro e1 w9 ⟨rfl, nq, hq⟩
      have HM9 : Hid (TM w w9 ao cap b q x (.slice av k cv) Qs) := by rw [hq]; exact HM.out.kept ⟨rfl, rfl, rfl, Nat.le_refl _, fun _ _ => rfl⟩
      have hqb := HM.out.rd.2.2.1
      clear hq HM x2
      have d1 := HM9.out.rd.c1
      by_cases hE : rdEnd b q x = 0
      · have HFF : Hid (RPostB w b (.returned (.tuple #[.slice av k cv, .int .i64 0, .int .i64 0])) w9) := by
          refine ⟨HM9.out.bel, ?_⟩
          have hx : x = 0 ∧ q = b.length := by
            unfold rdEnd at hE
            split at hE
            · cases hE
            · rename_i hh; exact ⟨hE, by have : ¬ (q < b.length) := fun h => hh ⟨hE, h⟩; omega⟩
          have h2 := HS2.out
          rw [hx.1] at h2
          rw [decR_end h2, if_pos hx.2]
          exact ⟨Qs, av, cv, rfl, by rw [HLn.out], by rw [HLn.out]; exact HM9.out.own, HM9.out.ok⟩
        rw [hE]
        clear hE HM9 HS2 HLn
        go_wp2
        refine bodyPost_ret (v := .tuple #[.slice av k cv, .int .i64 0, .int .i64 0]) ?_ rfl HFF.out
        simp [results, Tryd.results6]
      · have HFF : Hid (∀ t, RPostB w b (.returned (.tuple #[.slice none 0 0, .int .i64 (q : Int), .int .i64 (rdEnd b q x)])) (w9.drewN t)) := by
          intro t
          have hbel := HM9.out.bel
          refine ⟨⟨hbel.os, hbel.tape, hbel.output, hbel.size, hbel.block⟩, ?_⟩
          have h2 := HS2.out
          by_cases hx : x = 0
          · subst hx
            have hq2 : q < b.length := by
              unfold rdEnd at hE
              split at hE
              · rename_i hh; exact hh.2
              · exact absurd rfl hE
            have hr : rdEnd b q 0 = 11 := by unfold rdEnd; rw [if_pos ⟨rfl, hq2⟩]
            rw [decR_end h2, if_neg (by omega), hr]
          · have hr : rdEnd b q x = x := by unfold rdEnd; rw [if_neg (fun h => hx h.1)]
            rw [decR_bad h2 hx, hr]
        have hE' : (rdEnd b q x != 0) = true := by simpa using hE
        clear HM9 HS2 HLn hE
        generalize rdEnd b q x = ee at *
        go_wp2_with fail
        go_quiet (fail)
        have HF2 := HFF.out nq
        go_wp2
        refine bodyPost_ret (v := .tuple #[.slice none 0 0, .int .i64 (q : Int), .int .i64 ee]) ?_ rfl HF2
        simp [results, Tryd.results6]
end Go.Proofs.YtlilaicgmdbhcaaDoor.Kk
/-
  THE WALKS OF slices.BinarySearchFunc AND Find.
-/
namespace Go.Proofs.YtlilaicgmdbhcaaDoor.Kk
open Go.RowKit Go.Sort

/-- how many are below a key -/
def cnt (L : List K) (k : K) : Nat := (L.filter fun x => lt x k).length
theorem cnt_eq {L : List K} {k : K} {i : Nat} (hi : i ≤ L.length) (h1 : ∀ x, x < i → lt (kd L x) k = true) (h2 : ∀ x, i ≤ x → x < L.length → lt (kd L x) k = false) : cnt L k = i := by
  have e : L.filter (fun x => lt x k) = L.take i := by
    have hs := List.take_append_drop i L
    have ht : (L.take i).filter (fun x => lt x k) = L.take i := by
      rw [List.filter_eq_self]
      intro a ha
      obtain ⟨j, hj, he⟩ := List.mem_iff_getElem.1 ha
      have hj' : j < i := by simp at hj; omega
      have := h1 j hj'
      rw [List.getElem_take] at he
      have hg := kd_get (L := L) (j := j) (by simp at hj; omega)
      rw [List.getElem?_eq_getElem (by simp at hj; omega), Option.some.injEq, he] at hg
      rw [hg]; exact this
    have hd : (L.drop i).filter (fun x => lt x k) = [] := by
      rw [List.filter_eq_nil_iff]
      intro a ha
      obtain ⟨j, hj, he⟩ := List.mem_iff_getElem.1 ha
      have hjl : i + j < L.length := by simp at hj; omega
      have := h2 (i + j) (by omega) hjl
      rw [List.getElem_drop] at he
      have hg := kd_get hjl
      rw [List.getElem?_eq_getElem hjl, Option.some.injEq, he] at hg
      rw [hg, this]; decide
    calc L.filter (fun x => lt x k) = (L.take i ++ L.drop i).filter (fun x => lt x k) := by rw [hs]
      _ = L.take i := by rw [List.filter_append, ht, hd, List.append_nil]
  unfold cnt
  rw [e, List.length_take]; omega
theorem mem_at {L : List K} {k : K} {i : Nat} (hi : i ≤ L.length) (h1 : ∀ x, x < i → lt (kd L x) k = true) (h2 : ∀ x, i ≤ x → x < L.length → lt (kd L x) k = false) (hr : Rise L) : k ∈ L ↔ i < L.length ∧ kd L i = k := by
  constructor
  · intro hk
    obtain ⟨j, hj, he⟩ := List.mem_iff_getElem.1 hk
    have hg := kd_get hj
    rw [List.getElem?_eq_getElem hj, Option.some.injEq, he] at hg
    have hij : i ≤ j := by
      rcases Nat.lt_or_ge j i with h | h
      · have := h1 j h; rw [← hg, lt_irrefl] at this; cases this
      · exact h
    by_cases hij2 : i = j
    · subst hij2; exact ⟨hj, hg.symm⟩
    · have := rise_pair (i := i) (j := j) (by omega) hj hr
      rw [← hg, h2 i (Nat.le_refl _) (by omega)] at this; cases this
  · rintro ⟨h, rfl⟩; exact kd_mem h


/-- what Find answers -/
def findN (L : List K) (k : K) : Nat := if Rise L then cnt L k else 0
def findB (L : List K) (k : K) : Bool := decide (Rise L) && decide (k ∈ L)

end Go.Proofs.YtlilaicgmdbhcaaDoor.Kk
/-
  THE WALKS OF THE DOCUMENT's all, Rises, Has.
-/
namespace Go.Proofs.YtlilaicgmdbhcaaDoor.Kk
open Go.RowKit Go.Sort

set_option maxHeartbeats 2000000 in
set_option maxRecDepth 100000 in
theorem refAll_any (w : World) (ao : Option Addr) (cap n : Nat) (L : List K) (hn : n = L.length) (h : KeysAt w ao L) (hm : n ≤ 8796093022208) :
    Calls Tryd.prog 56 #[.slice ao n cap] w fun e w' => e = .returned (.bool (L.all isKey)) ∧ ∃ q os, w' = grow (w.drewN q) os := by
  have HN : Hid (n = L.length) := hn
  have HK : Hid (KeysAt w ao L) := h
  clear hn h
  go_enter Tryd.func56, Tryd.ntmps56
  go_wp2_with fail
  go_loopw [3] (fun x wr => ∃ k : Nat, k ≤ n ∧ x = .int .i64 (k : Int) ∧ Hid ((L.take k).all isKey = true) ∧ Hid (Grew w wr)) (fun x _ => n - (intOf x).toNat)
  case atStart => exact ⟨0, Nat.zero_le _, rfl, by simp [Hid], Grew.refl _⟩
  case round =>
    obtain ⟨k, hk, rfl, HA, HG⟩ := hrel
    by_cases hlt : k < n
    · have hl : k < L.length := by have := HN.out; omega
      rcases HK.out.grew HG.out with h0 | ⟨b, off, rfl, hc⟩
      · rw [h0] at hl; simp at hl
      · obtain ⟨c1, c2⟩ := KeysAt.at hc k hl
        have HT : Hid (isKey (kd L k) = true → (L.take (k + 1)).all isKey = true) := all_take L k HA.out hl
        have HF : Hid (isKey (kd L k) = false → L.all isKey = false) := all_false hl
        generalize kd L k = kk at *
        obtain ⟨t, r⟩ := kk
        simp only at c1 c2
        clear hc hl
        have HC : Hid (∀ b, isKey (t, r) = b → ∀ w, Calls Tryd.prog 63 #[.agg #[.int .i64 t, .int .i64 r]] w fun e w' => e = .returned (.int .i64 (errOf b 20)) ∧ ∃ q os, w' = grow (w.drewN q) os) := fun b hb w => hb ▸ refCheck_any w t r
        cases hik : isKey (t, r) with
        | false =>
          have HE : Hid (L.all isKey = false) := HF.out hik
          have HC1 := HC.out _ hik
          simp only [errOf] at HC1
          have HC2 : Hid _ := HC1
          clear HT HF HC hik HC1
          go_wp2_with fail
          refine (HC2.out _).mono ?_
          rintro e w1 ⟨rfl, hg⟩
          go_wp2
          go_ret
          exact ⟨by rw [HE.out]; rfl, HG.out.trans hg⟩
        | true =>
          have HE : Hid ((L.take (k + 1)).all isKey = true) := HT.out hik
          have HC1 := HC.out _ hik
          simp only [errOf] at HC1
          have HC2 : Hid _ := HC1
          clear HT HF HC hik HC1
          go_wp2_with fail
          refine (HC2.out _).mono ?_
          rintro e w1 ⟨rfl, hg⟩
          have HG1 : Hid (Grew w w1) := HG.out.trans hg
          clear hg
          go_wp2_with fail
          go_roundw
          case rel => exact ⟨k + 1, by omega, by go_num, HE, HG1⟩
          case measure => simp [intOf]; omega
    · obtain rfl : k = n := by omega
      have HE : Hid (L.all isKey = true) := by have := HA.out; rwa [HN.out, List.take_length] at this
      go_wp2
      go_ret
      exact ⟨by rw [HE.out]; rfl, HG.out⟩

end Go.Proofs.YtlilaicgmdbhcaaDoor.Kk
