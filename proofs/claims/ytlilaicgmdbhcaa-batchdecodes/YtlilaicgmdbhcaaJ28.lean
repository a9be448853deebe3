import Derived.Test.YtlilaicgmdbhcaaJ27
import Derived.Test.YtlilaicgmdbhcaaJ12
import Derived.Test.YtlilaicgmdbhcaaJ04
import Derived.Test.YtlilaicgmdbhcaaJ07
/-
  THE WALK OF preluderef06.Decode.
-/
namespace Go.Proofs.Ytlilaicgmdbhcaa.Kk
open Go.RowKit Go.Sort

/-- the document's Reader of a batch's bytes, and what was read of it -/
structure TM (w W : World) (ad : Option Addr) (c : Nat) (b : List Nat) (p : Nat) (e : Int) (v : Value) (Qs : List Bx) : Prop where
  rd : IsMod W w.heap.size ad c b p e
  bel : Below w.heap.size w W
  own : OwnT W (w.heap.size + 1) v Qs
  ok : ∀ x ∈ Qs, TxC W (w.heap.size + 1) x
  ap : ∀ x ∈ Qs, ∀ g, xb x g → v.ownBlock ≠ some g
  arg : ∀ x, b ≠ [] → ad = some x → x.block < w.heap.size
theorem TM.step {w W W' : World} {ad : Option Addr} {c : Nat} {b : List Nat} {p p2 : Nat} {e e2 : Int} {v : Value} {Qs : List Bx} (h : TM w W ad c b p e v Qs) (hr : Mods W w.heap.size ad c b p2 e2 W') : TM w W' ad c b p2 e2 v Qs := by
  have hne : ∀ g, w.heap.size + 1 ≤ g → some g ≠ some w.heap.size := fun g hg e => by cases e; omega
  refine ⟨hr.1, ?_, h.own.same fun g hg => hr.2.block g (h.own.lt g hg).2 (hne g (h.own.lt g hg).1), fun x hx => (h.ok x hx).same fun g hg => hr.2.block g ((h.ok x hx).lt hg).2 (hne g ((h.ok x hx).lt hg).1), h.ap, h.arg⟩
  exact ⟨hr.2.os.trans h.bel.os, hr.2.tape.trans h.bel.tape, hr.2.output.trans h.bel.output, Nat.le_trans h.bel.size hr.2.size, fun k hk => by
    rw [hr.2.block k (Nat.lt_of_lt_of_le hk h.bel.size) (fun e => by cases e; omega)]; exact h.bel.block k hk⟩
theorem TM.kept {w W W' : World} {ad : Option Addr} {c : Nat} {b : List Nat} {p : Nat} {e : Int} {v : Value} {Qs : List Bx} (h : TM w W ad c b p e v Qs) (hb : Below W.heap.size W W') : TM w W' ad c b p e v Qs :=
  ⟨h.rd.kept hb, h.bel.trans (hb.mono h.bel.size), h.own.kept hb, fun x hx => (h.ok x hx).kept hb, h.ap, h.arg⟩
theorem TM.put {w W W' : World} {ad : Option Addr} {c : Nat} {b : List Nat} {p S : Nat} {e : Int} {v v' : Value} {Qs : List Bx} {x : Bx} (h : TM w W ad c b p e v Qs) (hx : TxC W S x) (h2 : ∀ g, v.ownBlock = some g → g < S) (h3 : w.heap.size + 1 ≤ S)
    (ho : OwnT W' (w.heap.size + 1) v' (Qs ++ [x])) (hg : W.grownBy W' v.ownBlock) (hv : v'.ownBlock = v.ownBlock ∨ v'.ownBlock = some W.heap.size) : TM w W' ad c b p e v' (Qs ++ [x]) := by
  have hvb : ∀ k, v.ownBlock = some k → w.heap.size + 1 ≤ k := fun k hk => (h.own.lt k hk).1
  have hs : ∀ g, g < W.heap.size → v.ownBlock ≠ some g → W'.heap[g]? = W.heap[g]? := fun g hl hn => hg.block g hl (fun e => hn e.symm)
  have hxc : TxC W' (w.heap.size + 1) x := (hx.same (W' := W') fun g hg' => hs g (hx.lt hg').2 fun e => by have := h2 g e; have := (hx.lt hg').1; omega).mono h3
  refine ⟨?_, ?_, ho, ?_, ?_, h.arg⟩
  · refine h.rd.grown hg (fun e => ?_) (fun k hk y hb hy => ?_)
    · have := hvb _ e; omega
    · have := hvb k hk
      have := h.arg y hb hy
      omega
  · exact ⟨hg.os.trans h.bel.os, hg.tape.trans h.bel.tape, hg.output.trans h.bel.output, Nat.le_trans h.bel.size hg.size, fun k hk => by
      rw [hs k (Nat.lt_of_lt_of_le hk h.bel.size) (fun e => by have := hvb k e; omega)]; exact h.bel.block k hk⟩
  · intro y hy
    rcases List.mem_append.1 hy with hy | hy
    · exact (h.ok y hy).same fun g hg' => hs g ((h.ok y hy).lt hg').2 (h.ap y hy g hg')
    · simp at hy; subst hy; exact hxc
  · intro y hy g hg' e
    have hgl : g < W.heap.size := by
      rcases List.mem_append.1 hy with hy | hy
      · exact ((h.ok y hy).lt hg').2
      · simp at hy; subst hy; exact (hx.lt hg').2
    rcases hv with hv | hv
    · rw [hv] at e
      rcases List.mem_append.1 hy with hy | hy
      · exact h.ap y hy g hg' e
      · simp at hy; subst hy
        have := h2 g e
        have := (hx.lt hg').1
        omega
    · rw [hv] at e; cases e; omega
/-- what the document's Decode answers -/
def RPostB (w : World) (b : List Nat) (e' : Ending) (W : World) : Prop :=
  Below w.heap.size w W ∧ match decR b with
  | .ok Ts => ∃ Qs ao cap, Qs.map Bx.t = Ts ∧ e' = .returned (.tuple #[.slice ao Qs.length cap, .int .i64 0, .int .i64 0]) ∧ OwnT W (w.heap.size + 1) (.slice ao Qs.length cap) Qs ∧ ∀ x ∈ Qs, TxC W (w.heap.size + 1) x
  | .error (q, x) => e' = .returned (.tuple #[.slice none 0 0, .int .i64 (q : Int), .int .i64 x])
theorem decR_bad {b : List Nat} {rest : Rd (List Tp)} {q : Nat} {x : Int} (h : St (batR b 0) rest q x) (hx : x ≠ 0) : decR b = .error (q, x) := by
  unfold decR; rw [h.bad hx]
theorem decR_end {b : List Nat} {T : List Tp} {q : Nat} (h : St (batR b 0) (.ok (T, q)) q 0) : decR b = if q = b.length then .ok T else .error (q, 11) := by
  unfold decR; rw [h.zero]

set_option maxRecDepth 100000 in
set_option maxHeartbeats 2000000 in
theorem refDecB_any (w : World) (ao : Option Addr) (n cap : Nat) (b : List Nat) (h : BytesAt w ao b) (hn : n = b.length) (hm : n ≤ 140737488355328) (hlc : n ≤ cap) (hcm : cap ≤ maxLen) (hnil : ao = none → cap = 0) :
    Calls Try.prog 15 #[.slice ao n cap] w fun e w' => RPostB w b e w' := by
  have HM0 : Hid (TM w (w.alloc (.cells #[.slice ao n cap, .int .i64 0, .int .i64 0] 87)) ao cap b 0 0 (.slice none 0 0) []) := by
    refine ⟨⟨?_, h.kept ((Below.refl _ _).alloc (Nat.le_refl _) _), Nat.zero_le _, by omega, by omega, hcm, hnil, fun x hb hx => ?_⟩, (Below.refl _ _).alloc (Nat.le_refl _) _, OwnT.nil _ _, (fun x hx => by cases hx), (fun x hx => by cases hx), fun x hb hx => h.lt x hb hx⟩
    · rw [hn]; exact heap_alloc_new _ _ rfl
    · have := h.lt x hb hx; omega
  clear h hn hlc hcm hnil
  go_enter Try.func15, Try.ntmps15
  go_wp2_with fail
  generalize w.alloc (.cells #[.slice ao n cap, .int .i64 0, .int .i64 0] 87) = w1 at *
  obtain ⟨⟨m, q0, f0⟩, hx0⟩ : ∃ x, x = rdUpto b 0 0 64 := ⟨_, rfl⟩
  have HX0 : Hid (rdUpto b 0 0 64 = (m, q0, f0)) := hx0.symm
  have hm64 : m ≤ 64 := by have := rdUpto_le b 0 0 64; rw [HX0.out] at this; exact this
  have HS0 : Hid (St (batR b 0) (txsR b m [] q0) q0 f0) := by
    have := St.up (R := batR b 0) (f := fun x => txsR b x.1 [] x.2) (batR_def b 0)
    rw [HX0.out] at this
    exact this
  clear hx0
  refine (uUpto_any w1 _ _ _ b 0 0 64 HM0.out.rd).mono ?_
  rintro e1 w2 ⟨rfl, hr2⟩
  rw [HX0.out] at hr2 ⊢
  have HM2 : Hid (TM w w2 ao cap b q0 f0 (.slice none 0 0) []) := HM0.out.step hr2
  clear hr2 HM0 HX0
  go_wp2_with fail
  go_loopw [7, 8] (fun v i wr => ∃ k : Nat, k ≤ m ∧ i = .int .u64 (k : Int) ∧ ∃ av cv q x Qs, v = .slice av k cv ∧ Hid (TM w wr ao cap b q x (.slice av k cv) Qs) ∧ Hid (Qs.length = k ∧ St (batR b 0) (txsR b (m - k) (Qs.map Bx.t) q) q x)) (fun _ i _ => m - (intOf i).toNat)
  case atStart => exact ⟨0, Nat.zero_le _, rfl, none, 0, q0, f0, [], rfl, HM2, rfl, HS0.out⟩
  case round =>
    clear HM2 HS0
    obtain ⟨k, hk, rfl, av, cv, q, x, Qs, rfl, HM, HS⟩ := hrel
    have x2 := HM.out.rd.c2
    by_cases hlt : k < m
    · have hlt' : (k : Int) < (m : Int) := by omega
      by_cases he : x = 0
      · subst he
        have HLn : Hid (Qs.length = k) := HS.out.1
        go_wp2_with fail
        refine (refOne_any wr _ _ _ b q HM.out.rd).mono ?_
        rintro e1 w3 ⟨y, q3, x3, rfl, htc, hr3, hs3⟩
        have HS3 : Hid (St (batR b 0) (txsR b (m - (k + 1)) (Qs.map Bx.t ++ [y.t]) q3) q3 x3) := by
          have h2 := HS.out.2.zero
          rw [show m - k = (m - (k + 1)) + 1 by omega, txsR_step] at h2
          rcases hs3 with ⟨h3, h4⟩ | ⟨h3, h4⟩
          · rw [h4] at h2
            exact .inl ⟨h3, h2⟩
          · rw [h4] at h2
            exact .inr ⟨h3, h2⟩
        have HM3 : Hid (TM w w3 ao cap b q3 x3 (.slice av k cv) Qs) := HM.out.step hr3
        have HUn : Hid ((∀ g, (Value.slice av k cv).ownBlock = some g → g < wr.heap.size) ∧ w.heap.size + 1 ≤ wr.heap.size) := ⟨fun g hg => (HM.out.own.lt g hg).2, by have := HM.out.rd.lt; omega⟩
        have HTC : Hid (TxC w3 wr.heap.size y) := htc
        clear htc hr3 hs3 HM HS x2
        obtain ⟨⟨pr, A, R, V⟩, aA, cA, aR, cR, aV, cV⟩ := y
        simp only at HS3
        have HBl : Below w3.heap.size w3 (w3.alloc (.cells #[.int .i64 pr, .slice aA A.length cA, .slice aR R.length cR, .slice aV V.length cV] 57)) := (Below.refl _ _).alloc (Nat.le_refl _) _
        have HM4 : Hid (TM w (w3.alloc (.cells #[.int .i64 pr, .slice aA A.length cA, .slice aR R.length cR, .slice aV V.length cV] 57)) ao cap b q3 x3 (.slice av k cv) Qs) := HM3.out.kept HBl
        have HT4 : Hid (TxC (w3.alloc (.cells #[.int .i64 pr, .slice aA A.length cA, .slice aR R.length cR, .slice aV V.length cV] 57)) wr.heap.size ⟨⟨pr, A, R, V⟩, aA, cA, aR, cR, aV, cV⟩) := HTC.out.kept HBl
        have HB4 : Hid ((w3.alloc (.cells #[.int .i64 pr, .slice aA A.length cA, .slice aR R.length cR, .slice aV V.length cV] 57)).heap[w3.heap.size]? = some (.cells #[.int .i64 pr, .slice aA A.length cA, .slice aR R.length cR, .slice aV V.length cV] 57 (0, 0))) := heap_alloc_new _ _ rfl
        clear HBl HM3 HTC
        go_upto_region 8 with fail
        generalize w3.alloc (.cells #[.int .i64 pr, .slice aA A.length cA, .slice aR R.length cR, .slice aV V.length cV] 57) = w4 at *
        generalize w3.heap.size = B4 at *
        obtain ⟨z0, z1, z2, z3⟩ := box4 HB4.out
        go_wp2_with (at_builtin; refine wpList_append_txs rfl _ _ rfl (w.heap.size + 1) (.slice av k cv) Qs rfl (HM4.out.own.alloc _) _ 1 1 [⟨⟨pr, A, R, V⟩, aA, cA, aR, cR, aV, cV⟩] rfl rfl (tx_src w4 _ ⟨⟨pr, A, R, V⟩, aA, cA, aR, cR, aV, cV⟩ rfl) (by have := HLn.out; simp; omega) (by have := HM4.out.rd.lt; simp only [World.size_alloc]; omega) ?_; intro v8 w8 ho8 hg8 hv8)
        have HM8 : Hid (TM w w8 ao cap b q3 x3 v8 (Qs ++ [⟨⟨pr, A, R, V⟩, aA, cA, aR, cR, aV, cV⟩])) :=
          (HM4.out.kept ((Below.refl _ _).alloc (Nat.le_refl _) _)).put (HT4.out.kept ((Below.refl _ _).alloc (Nat.le_refl _) _)) HUn.out.1 HUn.out.2 ho8 hg8 hv8
        obtain ⟨a8, c8, rfl, _, _, _⟩ := ho8.slice
        have hl8 : (Qs ++ [(⟨⟨pr, A, R, V⟩, aA, cA, aR, cR, aV, cV⟩ : Bx)]).length = k + 1 := by rw [List.length_append, HLn.out]; rfl
        rw [hl8] at HM8 ⊢
        have HS8 : Hid ((Qs ++ [(⟨⟨pr, A, R, V⟩, aA, cA, aR, cR, aV, cV⟩ : Bx)]).length = k + 1 ∧ St (batR b 0) (txsR b (m - (k + 1)) ((Qs ++ [(⟨⟨pr, A, R, V⟩, aA, cA, aR, cR, aV, cV⟩ : Bx)]).map Bx.t) q3) q3 x3) := ⟨hl8, by rw [List.map_append]; exact HS3.out⟩
        clear ho8 hg8 hv8 hl8 HM4 HT4 HB4 HUn HS3 HLn z0 z1 z2 z3
        go_wp2
        go_roundw
        case rel => exact ⟨k + 1, by omega, by go_num, a8, c8, q3, x3, _, rfl, HM8, HS8⟩
        case measure => simp [intOf]; omega
      · have he' : (x == 0) = false := by simpa using he
        have HLn : Hid (Qs.length = k) := HS.out.1
        have HS2 : Hid (St (batR b 0) (.ok (Qs.map Bx.t, q)) q x) := HS.out.2.more he
        clear HS
        go_wp2_with fail
        refine (uEnd_any wr _ _ _ b q x HM.out.rd).mono ?_
        rintro e1 w9 ⟨rfl, nq, hq⟩
        have HM9 : Hid (TM w w9 ao cap b q x (.slice av k cv) Qs) := by rw [hq]; exact HM.out.kept ⟨rfl, rfl, rfl, Nat.le_refl _, fun _ _ => rfl⟩
        have hqb := HM.out.rd.2.2.1
        clear hq HM x2
        have d1 := HM9.out.rd.c1
        by_cases hE : rdEnd b q x = 0
        · have HFF : Hid (RPostB w b (.returned (.tuple #[.slice av k cv, .int .i64 0, .int .i64 0])) w9) := by
            refine ⟨HM9.out.bel, ?_⟩
            have hx : x = 0 ∧ q = b.length := by
              unfold rdEnd at hE
              split at hE
              · cases hE
              · rename_i hh; exact ⟨hE, by have : ¬ (q < b.length) := fun h => hh ⟨hE, h⟩; omega⟩
            have h2 := HS2.out
            rw [hx.1] at h2
            rw [decR_end h2, if_pos hx.2]
            exact ⟨Qs, av, cv, rfl, by rw [HLn.out], by rw [HLn.out]; exact HM9.out.own, HM9.out.ok⟩
          rw [hE]
          clear hE HM9 HS2 HLn
          go_wp2
          refine bodyPost_ret (v := .tuple #[.slice av k cv, .int .i64 0, .int .i64 0]) ?_ rfl HFF.out
          simp [results, Try.results15]
        · have HFF : Hid (∀ t, RPostB w b (.returned (.tuple #[.slice none 0 0, .int .i64 (q : Int), .int .i64 (rdEnd b q x)])) (w9.drewN t)) := by
            intro t
            have hbel := HM9.out.bel
            refine ⟨⟨hbel.os, hbel.tape, hbel.output, hbel.size, hbel.block⟩, ?_⟩
            have h2 := HS2.out
            by_cases hx : x = 0
            · subst hx
              have hq2 : q < b.length := by
                unfold rdEnd at hE
                split at hE
                · rename_i hh; exact hh.2
                · exact absurd rfl hE
              have hr : rdEnd b q 0 = 11 := by unfold rdEnd; rw [if_pos ⟨rfl, hq2⟩]
              rw [decR_end h2, if_neg (by omega), hr]
            · have hr : rdEnd b q x = x := by unfold rdEnd; rw [if_neg (fun h => hx h.1)]
              rw [decR_bad h2 hx, hr]
          have hE' : (rdEnd b q x != 0) = true := by simpa using hE
          clear HM9 HS2 HLn hE
          generalize rdEnd b q x = ee at *
          go_wp2_with fail
          go_quiet (fail)
          have HF2 := HFF.out nq
          go_wp2
          refine bodyPost_ret (v := .tuple #[.slice none 0 0, .int .i64 (q : Int), .int .i64 ee]) ?_ rfl HF2
          simp [results, Try.results15]
    · obtain rfl : k = m := by omega
      have HLn : Hid (Qs.length = k) := HS.out.1
      have HS2 : Hid (St (batR b 0) (.ok (Qs.map Bx.t, q)) q x) := by
        have := HS.out.2
        rw [Nat.sub_self] at this
        exact this
      clear HS
      go_wp2_with fail
      refine (uEnd_any wr _ _ _ b q x HM.out.rd).mono ?_
      rintro e1 w9 ⟨rfl, nq, hq⟩
      have HM9 : Hid (TM w w9 ao cap b q x (.slice av k cv) Qs) := by rw [hq]; exact HM.out.kept ⟨rfl, rfl, rfl, Nat.le_refl _, fun _ _ => rfl⟩
      have hqb := HM.out.rd.2.2.1
      clear hq HM x2
      have d1 := HM9.out.rd.c1
      by_cases hE : rdEnd b q x = 0
      · have HFF : Hid (RPostB w b (.returned (.tuple #[.slice av k cv, .int .i64 0, .int .i64 0])) w9) := by
          refine ⟨HM9.out.bel, ?_⟩
          have hx : x = 0 ∧ q = b.length := by
            unfold rdEnd at hE
            split at hE
            · cases hE
            · rename_i hh; exact ⟨hE, by have : ¬ (q < b.length) := fun h => hh ⟨hE, h⟩; omega⟩
          have h2 := HS2.out
          rw [hx.1] at h2
          rw [decR_end h2, if_pos hx.2]
          exact ⟨Qs, av, cv, rfl, by rw [HLn.out], by rw [HLn.out]; exact HM9.out.own, HM9.out.ok⟩
        rw [hE]
        clear hE HM9 HS2 HLn
        go_wp2
        refine bodyPost_ret (v := .tuple #[.slice av k cv, .int .i64 0, .int .i64 0]) ?_ rfl HFF.out
        simp [results, Try.results15]
      · have HFF : Hid (∀ t, RPostB w b (.returned (.tuple #[.slice none 0 0, .int .i64 (q : Int), .int .i64 (rdEnd b q x)])) (w9.drewN t)) := by
          intro t
          have hbel := HM9.out.bel
          refine ⟨⟨hbel.os, hbel.tape, hbel.output, hbel.size, hbel.block⟩, ?_⟩
          have h2 := HS2.out
          by_cases hx : x = 0
          · subst hx
            have hq2 : q < b.length := by
              unfold rdEnd at hE
              split at hE
              · rename_i hh; exact hh.2
              · exact absurd rfl hE
            have hr : rdEnd b q 0 = 11 := by unfold rdEnd; rw [if_pos ⟨rfl, hq2⟩]
            rw [decR_end h2, if_neg (by omega), hr]
          · have hr : rdEnd b q x = x := by unfold rdEnd; rw [if_neg (fun h => hx h.1)]
            rw [decR_bad h2 hx, hr]
        have hE' : (rdEnd b q x != 0) = true := by simpa using hE
        clear HM9 HS2 HLn hE
        generalize rdEnd b q x = ee at *
        go_wp2_with fail
        go_quiet (fail)
        have HF2 := HFF.out nq
        go_wp2
        refine bodyPost_ret (v := .tuple #[.slice none 0 0, .int .i64 (q : Int), .int .i64 ee]) ?_ rfl HF2
        simp [results, Try.results15]
end Go.Proofs.Ytlilaicgmdbhcaa.Kk
/-
  THE WALKS OF each, Check.
-/
namespace Go.Proofs.Ytlilaicgmdbhcaa.Kk
open Go.RowKit Go.Sort

set_option maxRecDepth 100000 in
set_option maxHeartbeats 1000000 in
theorem eachF_any (w : World) (ao : Option Addr) (n cap : Nat) (Bs : List Bx) (f : Tp → Int) (h : BatAt w ao Bs) (hn : n = Bs.length) (hm : n ≤ 140737488355328)
    (hl : ∀ i, i < Bs.length → ∀ W, Grew w W → Calls Try.prog 27 #[bxv (bd Bs i)] W fun e w' => e = .returned (.int .i64 (f (bd Bs i).t)) ∧ Grew W w') :
    Calls Try.prog 26 #[.slice ao n cap, .func (.func 27) #[] #[]] w fun e w' => e = .returned (.tuple #[.int .i64 ((eachN f (Bs.map Bx.t)).1 : Int), .int .i64 (eachN f (Bs.map Bx.t)).2]) ∧ Grew w w' := by
  have H : Hid (BatAt w ao Bs) := h
  have HN : Hid (n = Bs.length) := hn
  have HL : Hid (∀ i, i < Bs.length → ∀ W, Grew w W → Calls Try.prog 27 #[bxv (bd Bs i)] W fun e w' => e = .returned (.int .i64 (f (bd Bs i).t)) ∧ Grew W w') := hl
  have HT : Hid ((Bs.map Bx.t).length = n) := by rw [hn]; simp [Hid]
  clear h hn hl
  by_cases h64 : 64 < n
  · have HE : Hid (eachN f (Bs.map Bx.t) = (0, 60)) := eachN_big (by rw [HT.out]; exact h64)
    have h64i : (64 : Int) < n := by omega
    go_enter Try.func26, Try.ntmps26
    go_wp2
    go_ret2
    exact ⟨by rw [HE.out]; rfl, Grew.refl _⟩
  have h64i : ¬ (64 : Int) < n := by omega
  go_enter Try.func26, Try.ntmps26
  go_wp2_with fail
  go_loopw [14] (fun x wr => ∃ k : Nat, k ≤ n ∧ x = .int .i64 (k : Int) ∧ Hid (Grew w wr) ∧ Hid (∀ i, i < k → f (td (Bs.map Bx.t) i) = 0)) (fun x _ => n - (intOf x).toNat)
  case atStart => exact ⟨0, Nat.zero_le _, rfl, Grew.refl _, fun i hi => by omega⟩
  case round =>
    obtain ⟨k, hk, rfl, HG, HZ⟩ := hrel
    by_cases hlt : k < n
    · have hlt' : k < Bs.length := by have := HN.out; omega
      have HTd : Hid (td (Bs.map Bx.t) k = (bd Bs k).t) := td_map hlt'
      obtain ⟨b, off, rfl, c0, c1, c2, c3⟩ := TxsAt.get (H.out.at_.kept HG.out.below) k hlt'
      have HC : Hid (∀ W, Grew w W → Calls Try.prog 27 #[bxv (bd Bs k)] W fun e w' => e = .returned (.int .i64 (f (bd Bs k).t)) ∧ Grew W w') := HL.out k hlt'
      generalize bd Bs k = x at *
      obtain ⟨⟨proc, args, reads, writes⟩, aA, cA, aR, cR, aW, cW⟩ := x
      simp only [bxv] at c0 c1 c2 c3 HC HTd
      have HG1 : Hid (Grew w (wr.alloc (.cells #[.int .i64 proc, .slice aA args.length cA, .slice aR reads.length cR, .slice aW writes.length cW] 57))) := HG.out.alloc _
      obtain ⟨r, hr⟩ : ∃ r, r = f ⟨proc, args, reads, writes⟩ := ⟨_, rfl⟩
      rw [← hr] at HC
      have HR : Hid (f (td (Bs.map Bx.t) k) = r) := by rw [HTd.out, hr]; rfl
      clear hr HTd
      go_wp2_with fail
      refine (HC.out _ HG1.out).mono ?_
      rintro e w2 ⟨rfl, hg⟩
      have HG2 : Hid (Grew w w2) := HG1.out.trans hg
      clear hg HC HG1 HG c0 c1 c2 c3
      by_cases h0 : r = 0
      · subst h0
        go_wp2
        go_roundw
        case rel => exact ⟨k + 1, by omega, by go_num, HG2, fun i hi => by
          by_cases e : i = k
          · subst e; exact HR.out
          · exact HZ.out i (by omega)⟩
        case measure => simp [intOf]; omega
      · have h0' : ¬ r = 0 := h0
        have HE : Hid (eachN f (Bs.map Bx.t) = (k, r)) := by
          have := eachN_stop (f := f) (Ts := Bs.map Bx.t) (k := k) (by rw [HT.out]; omega) HZ.out (by rw [HR.out]; exact h0) (by rw [HT.out]; exact hlt)
          rw [HR.out] at this; exact this
        go_wp2
        go_ret2
        exact ⟨by rw [HE.out]; rfl, HG2.out⟩
    · obtain rfl : k = n := by omega
      have HE : Hid (eachN f (Bs.map Bx.t) = (0, 0)) := eachN_zero (by rw [HT.out]; omega) (by rw [HT.out]; exact HZ.out)
      go_wp2
      go_ret2
      exact ⟨by rw [HE.out]; rfl, HG.out⟩
end Go.Proofs.Ytlilaicgmdbhcaa.Kk
/-
  THE WALKS OF putArgs, putKeys, Encode.
-/
namespace Go.Proofs.Ytlilaicgmdbhcaa.Kk
open Go.RowKit Go.Sort

/-- BLOCK r IS A Writer OF T -/
def Wr (W : World) (base r : Nat) (T : List Nat) : Prop := ∃ v, IsWriter W base r v T
theorem Wr.kept {W W' : World} {base r : Nat} {T : List Nat} (h : Wr W base r T) (hb : Below W.heap.size W W') : Wr W' base r T := by
  obtain ⟨v, h⟩ := h; exact ⟨v, h.kept hb⟩
theorem Wr.size {W : World} {base r : Nat} {T : List Nat} (h : Wr W base r T) : base ≤ W.heap.size := by obtain ⟨v, h⟩ := h; exact h.size
/-- block k is not the Writer's -/
def Free (W : World) (r k : Nat) : Prop := k < W.heap.size ∧ k ≠ r ∧ ∀ v, W.cell? ⟨r, 0, none⟩ = some v → v.ownBlock ≠ some k
/-- what stays while a Writer is written -/
structure Fl (base r : Nat) (w w' : World) : Prop where
  bel : Below base w w'
  fre : ∀ k, Free w r k → w'.heap[k]? = w.heap[k]? ∧ Free w' r k
theorem Fl.trans {base r : Nat} {w w1 w2 : World} (h : Fl base r w w1) (k : Fl base r w1 w2) : Fl base r w w2 :=
  ⟨h.bel.trans k.bel, fun j hj => ⟨(k.fre j (h.fre j hj).2).1.trans (h.fre j hj).1, (k.fre j (h.fre j hj).2).2⟩⟩
theorem Fl.grew {base r : Nat} {w w1 w2 : World} {T : List Nat} (h : Fl base r w w1) (hw : Wr w1 base r T) (k : Below w1.heap.size w1 w2) : Fl base r w w2 := by
  refine h.trans ⟨k.mono hw.size, fun j hj => ⟨k.block j hj.1, Nat.lt_of_lt_of_le hj.1 k.size, hj.2.1, fun v hv => hj.2.2 v ?_⟩⟩
  obtain ⟨u, hu⟩ := hw
  simp only [World.cell?] at hv ⊢
  rw [k.block r hu.lt] at hv; exact hv
theorem Fl.refl (base r : Nat) (w : World) : Fl base r w w := ⟨Below.refl _ _, fun _ h => ⟨rfl, h⟩⟩
theorem Fl.of {base r : Nat} {w w' : World} {v v' : Value} {L L' : List Nat} (h : IsWriter w base r v L) (h' : IsWriter w' base r v' L') (hw : Wrote w w' r v v') : Fl base r w w' := by
  refine ⟨hw.below h, fun k hk => ⟨hw.block k hk.1 hk.2.1 (hk.2.2 v h.cell), Nat.lt_of_lt_of_le hk.1 hw.size, hk.2.1, fun u hu e => ?_⟩⟩
  have e1 : u = v' := by have := h'.cell; rw [hu] at this; exact Option.some.inj this
  subst e1
  rcases hw.lies k e with h1 | h1
  · exact hk.2.2 v h.cell h1
  · have := hk.1; omega
theorem free_new {W : World} {base r : Nat} {T : List Nat} (h : Wr W base r T) (o : Obj) : Free (W.alloc o) r W.heap.size := by
  obtain ⟨v, h⟩ := h
  have hr := h.lt
  refine ⟨by simp, by omega, fun u hu e => ?_⟩
  have h1 : (W.alloc o).cell? ⟨r, 0, none⟩ = some v := ((Grew.refl W).alloc o).cell h.cell
  rw [hu] at h1
  cases h1
  have := (h.2.1.2.lt _ e).2
  omega
/-- what a call of a Writer leaves -/
def WPost (w : World) (base r : Nat) (T : List Nat) (e : Ending) (w' : World) : Prop := e = .returned (.tuple #[]) ∧ Wr w' base r T ∧ Fl base r w w'
theorem wUint_b (w : World) (base r n : Nat) (T : List Nat) (h : Wr w base r T) (hn : n < 18446744073709551616) (hl : T.length + 11 ≤ 140737488355328) :
    Calls Try.prog 29 #[.pointer (some ⟨r, 0, none⟩), .int .u64 (n : Int)] w fun e w' => WPost w base r (T ++ uint 10 n) e w' := by
  obtain ⟨v, h⟩ := h
  refine (wUint_any w base r n v T h hn hl).mono ?_
  rintro e w' ⟨rfl, v', h1, h2⟩
  exact ⟨rfl, ⟨v', h1⟩, Fl.of h h1 h2⟩
theorem wInt_b (w : World) (base r : Nat) (n : Int) (T : List Nat) (h : Wr w base r T) (hn : In64 n) (hl : T.length + 11 ≤ 140737488355328) :
    Calls Try.prog 52 #[.pointer (some ⟨r, 0, none⟩), .int .i64 n] w fun e w' => WPost w base r (T ++ uint 10 (fold n)) e w' := by
  obtain ⟨v, h⟩ := h
  refine (wInt_any w base r n v T h hn.1 hn.2 hl).mono ?_
  rintro e w' ⟨rfl, v', h1, h2⟩
  exact ⟨rfl, ⟨v', h1⟩, Fl.of h h1 h2⟩
theorem wRaw_b (w : World) (base r : Nat) (T zs : List Nat) (ao : Option Addr) (n cap : Nat) (h : Wr w base r T) (hn : n = zs.length) (hb : BytesAt w ao zs) (hnil : ao = none → cap = 0) (hl : T.length + zs.length ≤ 140737488355328) :
    Calls Try.prog 54 #[.pointer (some ⟨r, 0, none⟩), .slice ao n cap] w fun e w' => WPost w base r (T ++ zs) e w' := by
  obtain ⟨v, h⟩ := h
  refine (wRaw_any w base r v T zs ao n cap h hn hb hnil hl).mono ?_
  rintro e w' ⟨rfl, v', h1, h2⟩
  exact ⟨rfl, ⟨v', h1⟩, Fl.of h h1 h2⟩
/-- what an argument's cells lie below -/
def Low (base : Nat) (ao : Option Addr) (E : Prop) : Prop := ∀ a, E → ao = some a → a.block < base
def argsT (A : List Int) : List Nat := A.flatMap fun x => uint 10 (fold x)
theorem argsT_length (A : List Int) : (argsT A).length ≤ A.length * 11 := by
  induction A with
  | nil => simp [argsT]
  | cons x A ih =>
    have := uint_length 10 (fold x)
    simp only [argsT, List.flatMap_cons, List.length_append, List.length_cons] at ih ⊢
    omega
theorem keysT_length (L : List K) : (L.flatMap keyBytes).length = L.length * 10 := by
  induction L with
  | nil => simp
  | cons x A ih => simp only [List.flatMap_cons, List.length_append, List.length_cons, ih, keyBytes_length]; omega

set_option maxRecDepth 100000 in
set_option maxHeartbeats 1000000 in
theorem putArgs_b (w : World) (base r : Nat) (T : List Nat) (ao : Option Addr) (n cap : Nat) (A : List Int) (h : Wr w base r T) (hA : NumsAt w ao A) (hlo : Low base ao (A.map iv ≠ [])) (hin : ∀ z ∈ A, In64 z) (hn : n = A.length) (hm : n ≤ 16) (hl : T.length ≤ 1000000) :
    Calls Try.prog 30 #[.pointer (some ⟨r, 0, none⟩), .slice ao n cap] w fun e w' => WPost w base r (T ++ argsN A) e w' := by
  have HW : Hid (Wr w base r T) := h
  have HA : Hid (NumsAt w ao A ∧ Low base ao (A.map iv ≠ []) ∧ n = A.length ∧ ∀ z ∈ A, In64 z) := ⟨hA, hlo, hn, hin⟩
  clear h hA hlo hin hn
  go_enter Try.func30, Try.ntmps30
  go_wp2_with fail
  refine (wUint_b w base r n T HW.out (by omega) (by omega)).mono ?_
  rintro e w1 ⟨rfl, h1, hb1⟩
  have HW1 : Hid (Wr w1 base r (T ++ uint 10 n)) := h1
  have HB1 : Hid (Fl base r w w1) := hb1
  have HT1 : Hid ((T ++ uint 10 n).length ≤ 1000011) := by
    have := uint_length 10 n
    rw [List.length_append]; simp only [Hid]; omega
  clear h1 hb1
  go_wp2_with fail
  go_loopw [13] (fun x wr => ∃ k : Nat, k ≤ n ∧ x = .int .i64 (k : Int) ∧ Hid (Wr wr base r (T ++ uint 10 n ++ argsT (A.take k))) ∧ Hid (Fl base r w wr)) (fun x _ => n - (intOf x).toNat)
  case atStart => exact ⟨0, Nat.zero_le _, rfl, by simpa [argsT] using HW1, HB1⟩
  case round =>
    clear HW1 HB1
    obtain ⟨k, hk, rfl, HWk, HBk⟩ := hrel
    by_cases hlt : k < n
    · have hlt' : k < A.length := by have := HA.out.2.2.1; omega
      obtain ⟨b, off, rfl, c1⟩ := NumsAt.get (HA.out.1.below HBk.out.bel HA.out.2.1) k hlt'
      have HIn : Hid (In64 (ad A k)) := HA.out.2.2.2 _ (ad_mem hlt')
      have HTk : Hid (argsT (A.take (k + 1)) = argsT (A.take k) ++ uint 10 (fold (ad A k))) := by rw [take_ad A k hlt']; simp [argsT, Hid]
      have HLk : Hid ((T ++ uint 10 n ++ argsT (A.take k)).length + 11 ≤ 140737488355328) := by
        have h1 := argsT_length (A.take k)
        have h2 := HT1.out
        rw [List.length_take] at h1
        rw [List.length_append]; simp only [Hid]; omega
      generalize ad A k = z at *
      go_wp2_with fail
      refine (wInt_b wr base r z _ HWk.out HIn.out HLk.out).mono ?_
      rintro e w2 ⟨rfl, h2, hb2⟩
      have HW2 : Hid (Wr w2 base r (T ++ uint 10 n ++ argsT (A.take (k + 1)))) := by rw [HTk.out, ← List.append_assoc]; exact h2
      have HB2 : Hid (Fl base r w w2) := HBk.out.trans hb2
      clear h2 hb2 HWk HBk c1
      go_wp2
      go_roundw
      case rel => exact ⟨k + 1, by omega, by go_num, HW2, HB2⟩
      case measure => simp [intOf]; omega
    · obtain rfl : k = n := by omega
      have HF : Hid (WPost w base r (T ++ argsN A) (.returned (.tuple #[])) wr) := by
        have h1 := HWk.out
        rw [List.take_of_length_le (by have := HA.out.2.2.1; omega), List.append_assoc] at h1
        refine ⟨rfl, ?_, HBk.out⟩
        unfold argsN
        rw [← HA.out.2.2.1]; exact h1
      clear HWk HBk
      go_wp2
      go_end0
      exact HF.out

set_option maxRecDepth 100000 in
set_option maxHeartbeats 1000000 in
theorem putKeys_b (w : World) (base r : Nat) (T : List Nat) (ao : Option Addr) (n cap : Nat) (A : List K) (h : Wr w base r T) (hA : KeysAt w ao A) (hlo : Low base ao (A ≠ [])) (hin : ∀ z ∈ A, KIn z) (hk : ∀ z ∈ A, isKey z = true) (hn : n = A.length) (hm : n ≤ 16) (hl : T.length ≤ 1000000) :
    Calls Try.prog 31 #[.pointer (some ⟨r, 0, none⟩), .slice ao n cap] w fun e w' => WPost w base r (T ++ setN A) e w' := by
  have HW : Hid (Wr w base r T) := h
  have HA : Hid (KeysAt w ao A ∧ Low base ao (A ≠ []) ∧ n = A.length ∧ (∀ z ∈ A, KIn z) ∧ ∀ z ∈ A, isKey z = true) := ⟨hA, hlo, hn, hin, hk⟩
  clear h hA hlo hin hn hk
  go_enter Try.func31, Try.ntmps31
  go_wp2_with fail
  refine (wUint_b w base r n T HW.out (by omega) (by omega)).mono ?_
  rintro e w1 ⟨rfl, h1, hb1⟩
  have HW1 : Hid (Wr w1 base r (T ++ uint 10 n)) := h1
  have HB1 : Hid (Fl base r w w1) := hb1
  have HT1 : Hid ((T ++ uint 10 n).length ≤ 1000011) := by
    have := uint_length 10 n
    rw [List.length_append]; simp only [Hid]; omega
  clear h1 hb1
  go_wp2_with fail
  go_loopw [15] (fun x wr => ∃ k : Nat, k ≤ n ∧ x = .int .i64 (k : Int) ∧ Hid (Wr wr base r (T ++ uint 10 n ++ (A.take k).flatMap keyBytes)) ∧ Hid (Fl base r w wr)) (fun x _ => n - (intOf x).toNat)
  case atStart => exact ⟨0, Nat.zero_le _, rfl, by simpa using HW1, HB1⟩
  case round =>
    clear HW1 HB1
    obtain ⟨k, hk, rfl, HWk, HBk⟩ := hrel
    by_cases hlt : k < n
    · have hlt' : k < A.length := by have := HA.out.2.2.1; omega
      obtain ⟨b, off, rfl, c1, c2⟩ := KeysAt.get (HA.out.1.below HBk.out.bel HA.out.2.1) k hlt'
      have HIn : Hid (KIn (kd A k)) := HA.out.2.2.2.1 _ (kd_mem hlt')
      have hky := HA.out.2.2.2.2 _ (kd_mem hlt')
      have HTk : Hid ((A.take (k + 1)).flatMap keyBytes = (A.take k).flatMap keyBytes ++ keyBytes (kd A k)) := by rw [take_kd A k hlt']; simp [Hid]
      have HLk : Hid ((T ++ uint 10 n ++ (A.take k).flatMap keyBytes).length + (keyBytes (kd A k)).length ≤ 140737488355328) := by
        have h1 := keysT_length (A.take k)
        have h2 := HT1.out
        rw [List.length_take] at h1
        rw [List.length_append, keyBytes_length]; simp only [Hid]; omega
      have HKb : Hid (∀ z ∈ keyBytes (kd A k), z < 256) := keyBytes_lt hky
      generalize kd A k = kk at *
      obtain ⟨t, s⟩ := kk
      simp only [isKey, Bool.and_eq_true, decide_eq_true_eq] at hky
      obtain ⟨q, rfl⟩ : ∃ q : Nat, t = (q : Int) := ⟨t.toNat, by omega⟩
      simp only at c1 c2
      have HBy : Hid (∀ W, Calls Try.prog 53 #[.agg #[.int .i64 (q : Int), .int .i64 s]] W fun e w' => ∃ B, e = .returned (.tuple #[.slice (some ⟨B, 0, none⟩) 10 10, .int .i64 0]) ∧ W.heap.size ≤ B ∧ w'.heap.size = B + 1 ∧ w'.heap[B]? = some (.cells (cellsU8 (keyBytes ((q : Int), s))) 113 (0, 0)) ∧ Grew W w') := fun W => bytes_key W q s (by omega) HIn.out.2
      have HG1 : Hid (Grew wr (wr.alloc (.cells #[.int .i64 (q : Int), .int .i64 s] 77))) := (Grew.refl _).alloc _
      go_wp2_with fail
      refine (HBy.out _).mono ?_
      rintro e w2 ⟨B, rfl, _, _, hrow, hg2⟩
      have HG2 : Hid (Grew wr w2) := HG1.out.trans hg2
      have HW2 : Hid (Wr w2 base r (T ++ uint 10 n ++ (A.take k).flatMap keyBytes)) := HWk.out.kept HG2.out.below
      have HBa : Hid (BytesAt w2 (some ⟨B, 0, none⟩) (keyBytes ((q : Int), s))) := ⟨HKb.out, .inr ⟨B, 0, rfl, fun j hj => by rw [Nat.zero_add]; exact row_cell hrow j hj⟩⟩
      have HB2 : Hid (Fl base r w w2) := HBk.out.grew HWk.out HG2.out.below
      clear hrow hg2 HG1 HG2 HBk HWk HBy c1 c2
      go_wp2_with fail
      refine (wRaw_b w2 base r _ (keyBytes ((q : Int), s)) (some ⟨B, 0, none⟩) 10 10 HW2.out (by rw [keyBytes_length]) HBa.out (fun e => by cases e) HLk.out).mono ?_
      rintro e w3 ⟨rfl, h3, hb3⟩
      have HW3 : Hid (Wr w3 base r (T ++ uint 10 n ++ (A.take (k + 1)).flatMap keyBytes)) := by rw [HTk.out, ← List.append_assoc]; exact h3
      have HB3 : Hid (Fl base r w w3) := HB2.out.trans hb3
      clear h3 hb3 HW2 HB2 HBa
      go_wp2
      go_roundw
      case rel => exact ⟨k + 1, by omega, by go_num, HW3, HB3⟩
      case measure => simp [intOf]; omega
    · obtain rfl : k = n := by omega
      have HF : Hid (WPost w base r (T ++ setN A) (.returned (.tuple #[])) wr) := by
        have h1 := HWk.out
        rw [List.take_of_length_le (by have := HA.out.2.2.1; omega), List.append_assoc] at h1
        refine ⟨rfl, ?_, HBk.out⟩
        unfold setN
        rw [← HA.out.2.2.1]; exact h1
      clear HWk HBk
      go_wp2
      go_end0
      exact HF.out
end Go.Proofs.Ytlilaicgmdbhcaa.Kk
