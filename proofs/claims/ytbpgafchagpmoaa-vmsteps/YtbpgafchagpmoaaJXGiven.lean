import Derived.Test.YtbpgafchagpmoaaJXRApp
import Derived.Deep.RegionHeld3
/-
  THE WALK OF given.
-/
namespace Go.Proofs.Ytbpgafchagpmoaa
open Go.RowKit Go.Sort

theorem keep_db {W : World} {b i c j : Nat} {v u : Value} (h : W.cell? ⟨b, i, none⟩ = some u) (hb : b ≠ c) : (W.setCell ⟨c, j, none⟩ v).cell? ⟨b, i, none⟩ = some u := by
  simp only [World.cell?] at h ⊢
  rw [heap_setCell_other W ⟨c, j, none⟩ b v hb]; exact h
theorem own_neB {b b' n c : Nat} (h : b ≠ b') : (Value.slice (some ⟨b, 0, none⟩) n c).ownBlock ≠ some b' := fun e => h (Option.some.inj e)
theorem zb_all {w W : World} {p : Nums} {u4 u5 u6 v4 v5 v6 : Value} (x : GS w W p u4 u5 u6 v4 v5 v6) : CB (((((((W.setCell ⟨w.heap.size + 1, 0, none⟩ (.int .i64 p.args)).setCell ⟨w.heap.size + 1, 1, none⟩ (.int .i64 p.reads)).setCell ⟨w.heap.size + 1, 2, none⟩ (.int .i64 p.writes)).setCell ⟨w.heap.size + 1, 3, none⟩ (.int .i64 p.locals)).setCell ⟨w.heap.size + 1, 4, none⟩ v4).setCell ⟨w.heap.size + 1, 5, none⟩ v5).setCell ⟨w.heap.size + 1, 6, none⟩ v6) (w.heap.size + 1) p v4 v5 v6 ∧ Go.RowKit.Below w.heap.size w (((((((W.setCell ⟨w.heap.size + 1, 0, none⟩ (.int .i64 p.args)).setCell ⟨w.heap.size + 1, 1, none⟩ (.int .i64 p.reads)).setCell ⟨w.heap.size + 1, 2, none⟩ (.int .i64 p.writes)).setCell ⟨w.heap.size + 1, 3, none⟩ (.int .i64 p.locals)).setCell ⟨w.heap.size + 1, 4, none⟩ v4).setCell ⟨w.heap.size + 1, 5, none⟩ v5).setCell ⟨w.heap.size + 1, 6, none⟩ v6) ∧ ∀ b, b ≠ w.heap.size + 1 → (((((((W.setCell ⟨w.heap.size + 1, 0, none⟩ (.int .i64 p.args)).setCell ⟨w.heap.size + 1, 1, none⟩ (.int .i64 p.reads)).setCell ⟨w.heap.size + 1, 2, none⟩ (.int .i64 p.writes)).setCell ⟨w.heap.size + 1, 3, none⟩ (.int .i64 p.locals)).setCell ⟨w.heap.size + 1, 4, none⟩ v4).setCell ⟨w.heap.size + 1, 5, none⟩ v5).setCell ⟨w.heap.size + 1, 6, none⟩ v6).heap[b]? = W.heap[b]? := by
  refine ⟨?_, ?_, fun b hb => ?_⟩
  · have h0 := heap_setCell_same W (w.heap.size + 1) 0 _ _ (.int .i64 p.args) x.zb
    have h1 := heap_setCell_same _ (w.heap.size + 1) 1 _ _ (.int .i64 p.reads) h0
    have h2 := heap_setCell_same _ (w.heap.size + 1) 2 _ _ (.int .i64 p.writes) h1
    have h3 := heap_setCell_same _ (w.heap.size + 1) 3 _ _ (.int .i64 p.locals) h2
    have h4 := heap_setCell_same _ (w.heap.size + 1) 4 _ _ v4 h3
    have h5 := heap_setCell_same _ (w.heap.size + 1) 5 _ _ v5 h4
    exact heap_setCell_same _ (w.heap.size + 1) 6 _ _ v6 h5
  · have hb : w.heap.size ≤ w.heap.size + 1 := Nat.le_succ _
    exact (((((((x.bel.trans (below_setCell _ _ hb)).trans (below_setCell _ _ hb)).trans (below_setCell _ _ hb)).trans (below_setCell _ _ hb)).trans (below_setCell _ _ hb)).trans (below_setCell _ _ hb)).trans (below_setCell _ _ hb))
  · rw [heap_setCell_other _ _ b _ (by exact hb), heap_setCell_other _ _ b _ (by exact hb), heap_setCell_other _ _ b _ (by exact hb), heap_setCell_other _ _ b _ (by exact hb), heap_setCell_other _ _ b _ (by exact hb), heap_setCell_other _ _ b _ (by exact hb), heap_setCell_other _ _ b _ (by exact hb)]
set_option maxRecDepth 100000 in
set_option maxHeartbeats 4000000 in
theorem given_any (w : World) (p : Nums) (ao : Option Addr) (n cap : Nat) (L : List K) (aa : Option Addr) (na ca : Nat) (A : List Int) (ra : Option Addr) (nr cr : Nat) (R : List C) (hin : CallIn w p ao n cap L aa na ca A ra nr cr R) (l1 : n * 16 ≤ 140737488351232) (l2 : na * 8 ≤ 140737488351232) (l3 : nr * 16 ≤ 140737488351232) :
    Calls Try.prog 9 #[.agg (cP p (.slice ao n cap) (.slice aa na ca) (.slice ra nr cr))] w fun e w' => GivenPost w p n na nr L A R e w' := by
  have HIn : Hid (CallIn w p ao n cap L aa na ca A ra nr cr R) := hin
  have HLm : Hid (n * 16 ≤ 140737488351232 ∧ na * 8 ≤ 140737488351232 ∧ nr * 16 ≤ 140737488351232) := ⟨l1, l2, l3⟩
  have HN4 : Hid (ao = none → n = 0 ∧ cap = 0) := fun e => by
    refine ⟨?_, hin.cnil e⟩
    rw [hin.ln]
    rcases hin.keys with h | ⟨b, off, e1, _⟩
    · rw [h]; rfl
    · rw [e] at e1; cases e1
  have HLn : Hid ((cks L).length = n * 2 ∧ (A.map iv).length = na * 1 ∧ (ccs R).length = nr * 2) := ⟨by rw [cks_length, hin.ln], by rw [List.length_map, hin.la, Nat.mul_one], by rw [ccs_length, hin.lr]⟩
  obtain ⟨i0, ii, iz0, iz1, iz2⟩ := info_parts info_instr
  obtain ⟨j0, ji, jz0, jz1, jz2⟩ := info_parts info64
  obtain ⟨k0, ki, kz0, kz1, kz2⟩ := info_parts info_cell
  clear hin l1 l2 l3
  go_enter Try.func9, Try.ntmps9
  go_upto_region 3 with fail
  have HG : Hid (GS w (((w.alloc (cQ p (.slice ao n cap) (.slice aa na ca) (.slice ra nr cr))).alloc (cQ zNums nilS nilS nilS)).alloc (cQ p (.slice ao n cap) nilS nilS)) p (.slice ao n cap) (.slice aa na ca) (.slice ra nr cr) (.slice ao n cap) nilS nilS) := GS.start w p _ _ _
  generalize (((w.alloc (cQ p (.slice ao n cap) (.slice aa na ca) (.slice ra nr cr))).alloc (cQ zNums nilS nilS nilS)).alloc (cQ p (.slice ao n cap) nilS nilS)) = W0 at *
  have HDb : Hid (Go.RowKit.Below W0.heap.size W0 W0.drew) := ((Grew.refl W0).drewN 1).below
  obtain ⟨_, _, _, _, x0, _, _⟩ := HG.out.cb.cells
  have y0 := al (o := .cells #[] 66) x0
  have z0 := al (o := .cells mk4.toArray 66) x0
  have yz0 := al (o := .cells mk4.toArray 66) y0
  have zy0 := al (o := .cells #[] 66) z0
  go_cut [] (fun wx => ∃ g4 r4, GS w wx p (.slice ao n cap) (.slice aa na ca) (.slice ra nr cr) (.slice (some ⟨g4, 0, none⟩) n r4) nilS nilS ∧ SL wx w.heap.size 66 2 g4 n r4 (cks L ++ mk4))
  case first =>
    go_region_held3 (fun w' => w'.cell? ⟨w.heap.size, 4, none⟩ = some (.slice ao n cap)) (first | exact keep_db x2 (by omega) | exact x2 | exact x1 | exact y1 | go_keep) (first
      | (refine step_append_src rfl _ _ 22 66 i0 (.agg #[.int .i64 0, .int .i64 0]) 2 16 Try.underlying22 ii iz0 iz1 iz2 rfl (by decide) rfl W0.heap.size _ 0 [] rfl (by first | exact (AP.made HDb.out 66 2).own | exact ((AP.made HDb.out 66 2).alloc (.cells mk4.toArray 66)).own | exact (AP.madeAt (b := W0.heap.size + 1) (HDb.out.alloc HDb.out.size (.cells mk4.toArray 66)) (by simp) 66 2).own) ao n cap (cks L) rfl HLn.out.1 (by first | exact ((HIn.out.keys.cells).below HG.out.bel).below (AP.made HDb.out 66 2).bel | exact ((HIn.out.keys.cells).below HG.out.bel).below ((AP.made HDb.out 66 2).alloc (.cells mk4.toArray 66)).bel | exact ((HIn.out.keys.cells).below HG.out.bel).below (AP.madeAt (b := W0.heap.size + 1) (HDb.out.alloc HDb.out.size (.cells mk4.toArray 66)) (by simp) 66 2).bel) HN4.out (cks_one L) (by have := HLm.out; unfold maxLen; omega) (by have := HLm.out; omega) (by first | (simp; omega) | simp) ?_; intro v1 w1 h1 h2 h3; rw [Nat.zero_add, List.nil_append] at h1; obtain ⟨q1, k1, hv1, _⟩ := own_slice h1; subst hv1; (first | (have HA1 : Hid (AP W0 w1 66 2 (.slice q1 n k1) n (cks L)) := (AP.made HDb.out 66 2).app h1 h2) | (have HA1 : Hid (AP W0 w1 66 2 (.slice q1 n k1) n (cks L)) := ((AP.made HDb.out 66 2).alloc (.cells mk4.toArray 66)).app h1 h2) | (have HA1 : Hid (AP W0 w1 66 2 (.slice q1 n k1) n (cks L)) := (AP.madeAt (b := W0.heap.size + 1) (HDb.out.alloc HDb.out.size (.cells mk4.toArray 66)) (by simp) 66 2).app h1 h2)); (first | (have HK1 := mk_app (mk_alloc (mk_newAt W0.drew W0.heap.size rfl mk4 66) (.cells #[] 66)) h2 (own_neB (by omega))) | (have HK1 := mk_app (mk_newAt (W0.drew.alloc (.cells #[] 66)) (W0.heap.size + 1) (by simp) mk4 66) h2 (own_neB (by omega))) | skip); have HX1 : Hid (GS w w1 p (.slice ao n cap) (.slice aa na ca) (.slice ra nr cr) (.slice ao n cap) nilS nilS) := HG.out.grow HA1.out.bel; obtain ⟨_, _, _, _, x1, _, _⟩ := HX1.out.cb.cells; have y1 := al (o := .cells mk4.toArray 66) x1; clear h1 h2 h3)
      | (refine step_append_src rfl _ _ 22 66 i0 (.agg #[.int .i64 0, .int .i64 0]) 2 16 Try.underlying22 ii iz0 iz1 iz2 rfl (by decide) rfl W0.heap.size (.slice q1 n k1) n (cks L) rfl (by first | exact HA1.out.own | exact (HA1.out.alloc _).own) (some ⟨_, 0, none⟩) 1 1 mk4 rfl rfl (by first | exact HK1 | exact mk_new w1 mk4 66) (fun e => by cases e) (by intro u hu; simp at hu; rcases hu with rfl | rfl <;> rfl) (by have := HLm.out; unfold maxLen; omega) (by have := HLm.out; omega) (by first | exact HA1.out.bel.size | exact (HA1.out.alloc _).bel.size) ?_; intro v2 w2 h1 h2 h3; obtain ⟨g4, r4, hv2, hr4⟩ := own_some h1 (Nat.succ_pos _); subst hv2; (first | (have HA2 : Hid (AP W0 w2 66 2 (.slice (some ⟨g4, 0, none⟩) (n + 1) r4) (n + 1) (cks L ++ mk4)) := HA1.out.app h1 h2) | (have HA2 : Hid (AP W0 w2 66 2 (.slice (some ⟨g4, 0, none⟩) (n + 1) r4) (n + 1) (cks L ++ mk4)) := (HA1.out.alloc _).app h1 h2)); have HX2 : Hid (GS w w2 p (.slice ao n cap) (.slice aa na ca) (.slice ra nr cr) (.slice ao n cap) nilS nilS) := HG.out.grow HA2.out.bel; obtain ⟨_, _, _, _, x2, _, _⟩ := HX2.out.cb.cells; obtain ⟨_, _, _, _, x3, _, _⟩ := HX2.out.db.cells; have f2 := HX2.out.db.frozen 4; have hq1 : n ≤ r4 := Nat.le_of_succ_le hr4; have hq2 : (n : Int) ≤ (r4 : Int) := Int.ofNat_le.2 hq1; clear h1 h2 h3))
    all_goals (
      go_wp2_with fail
      go_meet
      exact ⟨_, _, (HX2.out.set _).1, SL.set (W := w2) ⟨hr4, ownsRow_mono HA2.out.own HG.out.bel.size⟩ HX2.out.db (by decide) _⟩)
  case rest =>
    obtain ⟨g4, r4, hgs, hs4⟩ := hcut
    clear x0 y0 z0 yz0 zy0 HDb HG
    have HG : Hid (GS w wc p (.slice ao n cap) (.slice aa na ca) (.slice ra nr cr) (.slice (some ⟨g4, 0, none⟩) n r4) nilS nilS) := hgs
    have HS4 : Hid (SL wc w.heap.size 66 2 g4 n r4 (cks L ++ mk4)) := hs4
    clear hgs hs4
    generalize wc = W1 at *
    have HDb : Hid (Go.RowKit.Below W1.heap.size W1 W1.drew) := ((Grew.refl W1).drewN 1).below
    obtain ⟨_, _, _, _, _, x0, _⟩ := HG.out.cb.cells
    have y0 := al (o := .cells #[] 2) x0
    have z0 := al (o := .cells mk5.toArray 2) x0
    have yz0 := al (o := .cells mk5.toArray 2) y0
    have zy0 := al (o := .cells #[] 2) z0
    go_upto_region 4 with fail
    go_cut [] (fun wx => ∃ g5 r5, GS w wx p (.slice ao n cap) (.slice aa na ca) (.slice ra nr cr) (.slice (some ⟨g4, 0, none⟩) n r4) (.slice (some ⟨g5, 0, none⟩) na r5) nilS ∧ SL wx w.heap.size 66 2 g4 n r4 (cks L ++ mk4) ∧ SL wx w.heap.size 2 1 g5 na r5 (A.map iv ++ mk5))
    case first =>
      go_region_held3 (fun w' => w'.cell? ⟨w.heap.size, 5, none⟩ = some (.slice aa na ca)) (first | exact keep_db x2 (by omega) | exact x2 | exact x1 | exact y1 | go_keep) (first
        | (refine step_append_src rfl _ _ 25 2 j0 (.int .i64 0) 1 8 Try.underlying25 ji jz0 jz1 jz2 rfl (by decide) rfl W1.heap.size _ 0 [] rfl (by first | exact (AP.made HDb.out 2 1).own | exact ((AP.made HDb.out 2 1).alloc (.cells mk5.toArray 2)).own | exact (AP.madeAt (b := W1.heap.size + 1) (HDb.out.alloc HDb.out.size (.cells mk5.toArray 2)) (by simp) 2 1).own) aa na ca (A.map iv) rfl HLn.out.2.1 (by first | exact ((HIn.out.args.at_).below HG.out.bel).below (AP.made HDb.out 2 1).bel | exact ((HIn.out.args.at_).below HG.out.bel).below ((AP.made HDb.out 2 1).alloc (.cells mk5.toArray 2)).bel | exact ((HIn.out.args.at_).below HG.out.bel).below (AP.madeAt (b := W1.heap.size + 1) (HDb.out.alloc HDb.out.size (.cells mk5.toArray 2)) (by simp) 2 1).bel) HIn.out.args.nil (oneI A) (by have := HLm.out; unfold maxLen; omega) (by have := HLm.out; omega) (by first | (simp; omega) | simp) ?_; intro v1 w1 h1 h2 h3; rw [Nat.zero_add, List.nil_append] at h1; obtain ⟨q1, k1, hv1, _⟩ := own_slice h1; subst hv1; (first | (have HA1 : Hid (AP W1 w1 2 1 (.slice q1 na k1) na (A.map iv)) := (AP.made HDb.out 2 1).app h1 h2) | (have HA1 : Hid (AP W1 w1 2 1 (.slice q1 na k1) na (A.map iv)) := ((AP.made HDb.out 2 1).alloc (.cells mk5.toArray 2)).app h1 h2) | (have HA1 : Hid (AP W1 w1 2 1 (.slice q1 na k1) na (A.map iv)) := (AP.madeAt (b := W1.heap.size + 1) (HDb.out.alloc HDb.out.size (.cells mk5.toArray 2)) (by simp) 2 1).app h1 h2)); (first | (have HK1 := mk_app (mk_alloc (mk_newAt W1.drew W1.heap.size rfl mk5 2) (.cells #[] 2)) h2 (own_neB (by omega))) | (have HK1 := mk_app (mk_newAt (W1.drew.alloc (.cells #[] 2)) (W1.heap.size + 1) (by simp) mk5 2) h2 (own_neB (by omega))) | skip); have HX1 : Hid (GS w w1 p (.slice ao n cap) (.slice aa na ca) (.slice ra nr cr) (.slice (some ⟨g4, 0, none⟩) n r4) nilS nilS) := HG.out.grow HA1.out.bel; obtain ⟨_, _, _, _, _, x1, _⟩ := HX1.out.cb.cells; have y1 := al (o := .cells mk5.toArray 2) x1; clear h1 h2 h3)
        | (refine step_append_src rfl _ _ 25 2 j0 (.int .i64 0) 1 8 Try.underlying25 ji jz0 jz1 jz2 rfl (by decide) rfl W1.heap.size (.slice q1 na k1) na (A.map iv) rfl (by first | exact HA1.out.own | exact (HA1.out.alloc _).own) (some ⟨_, 0, none⟩) 1 1 mk5 rfl rfl (by first | exact HK1 | exact mk_new w1 mk5 2) (fun e => by cases e) (by intro u hu; simp at hu; rw [hu]; rfl) (by have := HLm.out; unfold maxLen; omega) (by have := HLm.out; omega) (by first | exact HA1.out.bel.size | exact (HA1.out.alloc _).bel.size) ?_; intro v2 w2 h1 h2 h3; obtain ⟨g5, r5, hv2, hr5⟩ := own_some h1 (Nat.succ_pos _); subst hv2; (first | (have HA2 : Hid (AP W1 w2 2 1 (.slice (some ⟨g5, 0, none⟩) (na + 1) r5) (na + 1) (A.map iv ++ mk5)) := HA1.out.app h1 h2) | (have HA2 : Hid (AP W1 w2 2 1 (.slice (some ⟨g5, 0, none⟩) (na + 1) r5) (na + 1) (A.map iv ++ mk5)) := (HA1.out.alloc _).app h1 h2)); have HX2 : Hid (GS w w2 p (.slice ao n cap) (.slice aa na ca) (.slice ra nr cr) (.slice (some ⟨g4, 0, none⟩) n r4) nilS nilS) := HG.out.grow HA2.out.bel; obtain ⟨_, _, _, _, _, x2, _⟩ := HX2.out.cb.cells; obtain ⟨_, _, _, _, _, x3, _⟩ := HX2.out.db.cells; have f2 := HX2.out.db.frozen 5; have hq1 : na ≤ r5 := Nat.le_of_succ_le hr5; have hq2 : (na : Int) ≤ (r5 : Int) := Int.ofNat_le.2 hq1; clear h1 h2 h3))
      all_goals (
        go_wp2_with fail
        go_meet
        exact ⟨_, _, (HX2.out.set _).2.1, (HS4.out.grow HA2.out.bel).set HX2.out.db (by decide) _, SL.set (W := w2) ⟨hr5, ownsRow_mono HA2.out.own HG.out.bel.size⟩ HX2.out.db (by decide) _⟩)
    case rest =>
      obtain ⟨g5, r5, hgs, hs4, hs5⟩ := hcut
      clear x0 y0 z0 yz0 zy0 HDb HG HS4
      have HG : Hid (GS w wc p (.slice ao n cap) (.slice aa na ca) (.slice ra nr cr) (.slice (some ⟨g4, 0, none⟩) n r4) (.slice (some ⟨g5, 0, none⟩) na r5) nilS) := hgs
      have HS4 : Hid (SL wc w.heap.size 66 2 g4 n r4 (cks L ++ mk4)) := hs4
      have HS5 : Hid (SL wc w.heap.size 2 1 g5 na r5 (A.map iv ++ mk5)) := hs5
      clear hgs hs4 hs5
      generalize wc = W2 at *
      have HDb : Hid (Go.RowKit.Below W2.heap.size W2 W2.drew) := ((Grew.refl W2).drewN 1).below
      obtain ⟨_, _, _, _, _, _, x0⟩ := HG.out.cb.cells
      have y0 := al (o := .cells #[] 64) x0
      have z0 := al (o := .cells mk6.toArray 64) x0
      have yz0 := al (o := .cells mk6.toArray 64) y0
      have zy0 := al (o := .cells #[] 64) z0
      go_upto_region 5 with fail
      go_cut [] (fun wx => ∃ g6 r6, GS w wx p (.slice ao n cap) (.slice aa na ca) (.slice ra nr cr) (.slice (some ⟨g4, 0, none⟩) n r4) (.slice (some ⟨g5, 0, none⟩) na r5) (.slice (some ⟨g6, 0, none⟩) nr r6) ∧ SL wx w.heap.size 66 2 g4 n r4 (cks L ++ mk4) ∧ SL wx w.heap.size 2 1 g5 na r5 (A.map iv ++ mk5) ∧ SL wx w.heap.size 64 2 g6 nr r6 (ccs R ++ mk6))
      case first =>
        go_region_held3 (fun w' => w'.cell? ⟨w.heap.size, 6, none⟩ = some (.slice ra nr cr)) (first | exact keep_db x2 (by omega) | exact x2 | exact x1 | exact y1 | go_keep) (first
          | (refine step_append_src rfl _ _ 26 64 k0 (.agg #[.bool false, .int .i64 0]) 2 16 Try.underlying26 ki kz0 kz1 kz2 rfl (by decide) rfl W2.heap.size _ 0 [] rfl (by first | exact (AP.made HDb.out 64 2).own | exact ((AP.made HDb.out 64 2).alloc (.cells mk6.toArray 64)).own | exact (AP.madeAt (b := W2.heap.size + 1) (HDb.out.alloc HDb.out.size (.cells mk6.toArray 64)) (by simp) 64 2).own) ra nr cr (ccs R) rfl HLn.out.2.2 (by first | exact ((HIn.out.reads.at_).below HG.out.bel).below (AP.made HDb.out 64 2).bel | exact ((HIn.out.reads.at_).below HG.out.bel).below ((AP.made HDb.out 64 2).alloc (.cells mk6.toArray 64)).bel | exact ((HIn.out.reads.at_).below HG.out.bel).below (AP.madeAt (b := W2.heap.size + 1) (HDb.out.alloc HDb.out.size (.cells mk6.toArray 64)) (by simp) 64 2).bel) HIn.out.reads.nil (ccs_one R) (by have := HLm.out; unfold maxLen; omega) (by have := HLm.out; omega) (by first | (simp; omega) | simp) ?_; intro v1 w1 h1 h2 h3; rw [Nat.zero_add, List.nil_append] at h1; obtain ⟨q1, k1, hv1, _⟩ := own_slice h1; subst hv1; (first | (have HA1 : Hid (AP W2 w1 64 2 (.slice q1 nr k1) nr (ccs R)) := (AP.made HDb.out 64 2).app h1 h2) | (have HA1 : Hid (AP W2 w1 64 2 (.slice q1 nr k1) nr (ccs R)) := ((AP.made HDb.out 64 2).alloc (.cells mk6.toArray 64)).app h1 h2) | (have HA1 : Hid (AP W2 w1 64 2 (.slice q1 nr k1) nr (ccs R)) := (AP.madeAt (b := W2.heap.size + 1) (HDb.out.alloc HDb.out.size (.cells mk6.toArray 64)) (by simp) 64 2).app h1 h2)); (first | (have HK1 := mk_app (mk_alloc (mk_newAt W2.drew W2.heap.size rfl mk6 64) (.cells #[] 64)) h2 (own_neB (by omega))) | (have HK1 := mk_app (mk_newAt (W2.drew.alloc (.cells #[] 64)) (W2.heap.size + 1) (by simp) mk6 64) h2 (own_neB (by omega))) | skip); have HX1 : Hid (GS w w1 p (.slice ao n cap) (.slice aa na ca) (.slice ra nr cr) (.slice (some ⟨g4, 0, none⟩) n r4) (.slice (some ⟨g5, 0, none⟩) na r5) nilS) := HG.out.grow HA1.out.bel; obtain ⟨_, _, _, _, _, _, x1⟩ := HX1.out.cb.cells; have y1 := al (o := .cells mk6.toArray 64) x1; clear h1 h2 h3)
          | (refine step_append_src rfl _ _ 26 64 k0 (.agg #[.bool false, .int .i64 0]) 2 16 Try.underlying26 ki kz0 kz1 kz2 rfl (by decide) rfl W2.heap.size (.slice q1 nr k1) nr (ccs R) rfl (by first | exact HA1.out.own | exact (HA1.out.alloc _).own) (some ⟨_, 0, none⟩) 1 1 mk6 rfl rfl (by first | exact HK1 | exact mk_new w1 mk6 64) (fun e => by cases e) (by intro u hu; simp at hu; rcases hu with rfl | rfl <;> rfl) (by have := HLm.out; unfold maxLen; omega) (by have := HLm.out; omega) (by first | exact HA1.out.bel.size | exact (HA1.out.alloc _).bel.size) ?_; intro v2 w2 h1 h2 h3; obtain ⟨g6, r6, hv2, hr6⟩ := own_some h1 (Nat.succ_pos _); subst hv2; (first | (have HA2 : Hid (AP W2 w2 64 2 (.slice (some ⟨g6, 0, none⟩) (nr + 1) r6) (nr + 1) (ccs R ++ mk6)) := HA1.out.app h1 h2) | (have HA2 : Hid (AP W2 w2 64 2 (.slice (some ⟨g6, 0, none⟩) (nr + 1) r6) (nr + 1) (ccs R ++ mk6)) := (HA1.out.alloc _).app h1 h2)); have HX2 : Hid (GS w w2 p (.slice ao n cap) (.slice aa na ca) (.slice ra nr cr) (.slice (some ⟨g4, 0, none⟩) n r4) (.slice (some ⟨g5, 0, none⟩) na r5) nilS) := HG.out.grow HA2.out.bel; obtain ⟨_, _, _, _, _, _, x2⟩ := HX2.out.cb.cells; obtain ⟨_, _, _, _, _, _, x3⟩ := HX2.out.db.cells; have f2 := HX2.out.db.frozen 6; have hq1 : nr ≤ r6 := Nat.le_of_succ_le hr6; have hq2 : (nr : Int) ≤ (r6 : Int) := Int.ofNat_le.2 hq1; clear h1 h2 h3))
        all_goals (
          go_wp2_with fail
          go_meet
          exact ⟨_, _, (HX2.out.set _).2.2, (HS4.out.grow HA2.out.bel).set HX2.out.db (by decide) _, (HS5.out.grow HA2.out.bel).set HX2.out.db (by decide) _, SL.set (W := w2) ⟨hr6, ownsRow_mono HA2.out.own HG.out.bel.size⟩ HX2.out.db (by decide) _⟩)
      case rest =>
        obtain ⟨g6, r6, hgs, hs4, hs5, hs6⟩ := hcut
        clear x0 y0 z0 yz0 zy0 HDb HG HS4 HS5
        have HG : Hid (GS w wc p (.slice ao n cap) (.slice aa na ca) (.slice ra nr cr) (.slice (some ⟨g4, 0, none⟩) n r4) (.slice (some ⟨g5, 0, none⟩) na r5) (.slice (some ⟨g6, 0, none⟩) nr r6)) := hgs
        have HS4 : Hid (SL wc w.heap.size 66 2 g4 n r4 (cks L ++ mk4)) := hs4
        have HS5 : Hid (SL wc w.heap.size 2 1 g5 na r5 (A.map iv ++ mk5)) := hs5
        have HS6 : Hid (SL wc w.heap.size 64 2 g6 nr r6 (ccs R ++ mk6)) := hs6
        clear hgs hs4 hs5 hs6
        generalize wc = W3 at *
        obtain ⟨x0, x1, x2, x3, x4, x5, x6⟩ := HG.out.db.cells
        obtain ⟨z0, z1, z2, z3, z4, z5, z6⟩ := HG.out.zb.cells
        have f0 := HG.out.zb.frozen 0
        have f1 := HG.out.zb.frozen 1
        have f2 := HG.out.zb.frozen 2
        have f3 := HG.out.zb.frozen 3
        have f4 := HG.out.zb.frozen 4
        have f5 := HG.out.zb.frozen 5
        have f6 := HG.out.zb.frozen 6
        have HZ : Hid (CB (((((((W3.setCell ⟨w.heap.size + 1, 0, none⟩ (.int .i64 p.args)).setCell ⟨w.heap.size + 1, 1, none⟩ (.int .i64 p.reads)).setCell ⟨w.heap.size + 1, 2, none⟩ (.int .i64 p.writes)).setCell ⟨w.heap.size + 1, 3, none⟩ (.int .i64 p.locals)).setCell ⟨w.heap.size + 1, 4, none⟩ (.slice (some ⟨g4, 0, none⟩) n r4)).setCell ⟨w.heap.size + 1, 5, none⟩ (.slice (some ⟨g5, 0, none⟩) na r5)).setCell ⟨w.heap.size + 1, 6, none⟩ (.slice (some ⟨g6, 0, none⟩) nr r6)) (w.heap.size + 1) p (.slice (some ⟨g4, 0, none⟩) n r4) (.slice (some ⟨g5, 0, none⟩) na r5) (.slice (some ⟨g6, 0, none⟩) nr r6) ∧ Go.RowKit.Below w.heap.size w (((((((W3.setCell ⟨w.heap.size + 1, 0, none⟩ (.int .i64 p.args)).setCell ⟨w.heap.size + 1, 1, none⟩ (.int .i64 p.reads)).setCell ⟨w.heap.size + 1, 2, none⟩ (.int .i64 p.writes)).setCell ⟨w.heap.size + 1, 3, none⟩ (.int .i64 p.locals)).setCell ⟨w.heap.size + 1, 4, none⟩ (.slice (some ⟨g4, 0, none⟩) n r4)).setCell ⟨w.heap.size + 1, 5, none⟩ (.slice (some ⟨g5, 0, none⟩) na r5)).setCell ⟨w.heap.size + 1, 6, none⟩ (.slice (some ⟨g6, 0, none⟩) nr r6)) ∧ ∀ b, b ≠ w.heap.size + 1 → (((((((W3.setCell ⟨w.heap.size + 1, 0, none⟩ (.int .i64 p.args)).setCell ⟨w.heap.size + 1, 1, none⟩ (.int .i64 p.reads)).setCell ⟨w.heap.size + 1, 2, none⟩ (.int .i64 p.writes)).setCell ⟨w.heap.size + 1, 3, none⟩ (.int .i64 p.locals)).setCell ⟨w.heap.size + 1, 4, none⟩ (.slice (some ⟨g4, 0, none⟩) n r4)).setCell ⟨w.heap.size + 1, 5, none⟩ (.slice (some ⟨g5, 0, none⟩) na r5)).setCell ⟨w.heap.size + 1, 6, none⟩ (.slice (some ⟨g6, 0, none⟩) nr r6)).heap[b]? = W3.heap[b]?) := zb_all HG.out
        have hld := load_call HZ.out.1
        go_wp2
        refine bodyPost_ret (v := .agg (cP p (.slice (some ⟨g4, 0, none⟩) n r4) (.slice (some ⟨g5, 0, none⟩) na r5) (.slice (some ⟨g6, 0, none⟩) nr r6))) ?_ rfl ?_
        · simp [results, Try.results9, asAddr, hld]
        · refine ⟨g4, r4, g5, r5, g6, r6, rfl, ⟨HS4.out.1, ownsRow_same HS4.out.2 (fun x hx => HZ.out.2.2 x (own_neC HS4.out.2 HG.out.zb (by decide) hx))⟩, ⟨HS5.out.1, ownsRow_same HS5.out.2 (fun x hx => HZ.out.2.2 x (own_neC HS5.out.2 HG.out.zb (by decide) hx))⟩, ⟨HS6.out.1, ownsRow_same HS6.out.2 (fun x hx => HZ.out.2.2 x (own_neC HS6.out.2 HG.out.zb (by decide) hx))⟩, HZ.out.2.1⟩
end Go.Proofs.Ytbpgafchagpmoaa
