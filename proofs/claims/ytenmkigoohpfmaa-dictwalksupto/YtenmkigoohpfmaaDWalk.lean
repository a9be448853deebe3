/-
  DictWalks: THE WALK OF THE LAW.
-/
import Derived.Test.YtenmkigoohpfmaaDWalkT
import Derived.Laws.EntriesVeiled
import Derived.Deep.RegionHeld3
import Derived.Deep.RegionLaw
import Derived.BigQuiet
import Derived.Test.YtenmkigoohpfmaaKNe
namespace Go.Proofs.Ytenmkigoohpfmaa
open Go.RowKit Go.Sort Go.Shelf

attribute [local go_sem] Oper.semAt_some

theorem step_appW {w : World} {ops : Array Oper} {o : Oper} {a : Act} {K' : Act → World → Prop} {Q : Exit → Act → World → Prop} {E : Prop} (hgd : o.guard = none) (s x : Operand) (TS : TypeId)
    (ho : o.op = .call { callee := .builtin .append, args := #[s, x], argTypes := #[TS, TS] }) (v u : Value) (hs : a.eval s = v) (hx : a.eval x = u) {post : Value → World → Prop}
    (hr : ∀ ty, ∃ v' w', (Builtin.append_ #[TS, TS] ty #[v, u]).run Try.prog w = .ok v' w' ∧ post v' w') (h : ∀ v' w', post v' w' → K' (a.put o.dst v') w') :
    if Region.wanted o (yielded ops a.tmps) = true then Oper.wp Try.prog o a w K' Q else E := by
  have hw : Region.wanted o (yielded ops a.tmps) = true := by simp [Region.wanted, hgd]
  rw [if_pos hw]
  obtain ⟨v', w', hr, h2⟩ := hr o.type
  unfold Oper.wp execOp
  simp only [ho, resolve, invoke, builtin, Sem.run_bind, Sem.run_pure, Result.andThen_ok, List.map_toArray, List.map_cons, List.map_nil, hs, hx, hr]
  exact h v' w' h2
theorem below_drew0' (W : World) : Below W.heap.size W W.drew := ⟨rfl, rfl, rfl, Nat.le_refl _, fun _ _ => rfl⟩
theorem blkc5 {w W W' : World} {D M L B3 B4 B5 B7 : Nat} {es ws : List En} {mv wv : Value} (h : WS w W D M L B3 B4 B5 B7 es ws mv wv) (f : FrK w.heap.size W W') : W'.cell? ⟨B5, 0, none⟩ = some (ptr D) := by
  rw [World.cell?, f.oth _ _ _ h.b5 (by decide) (by decide), h.b5]; rfl
theorem fold_hid {p : Prop} (h : p) : Hid p := h
/-- one pair more is wanted: the row, and the box behind the store -/
theorem WS.more {w W : World} {D M L B3 B4 B5 B7 : Nat} {es ws : List En} {mv : Value} {wo : Option Addr} {wn wc : Nat} (e : En) (h : WS w W D M L B3 B4 B5 B7 es ws mv (.slice wo wn wc)) (hn : ws.length ≤ 2000000000) (hB : w.heap.size ≤ B7) (ty : TypeId) :
    ∃ v' w', (Builtin.append_ #[TQs, TQs] ty #[.slice wo wn wc, .slice (some ⟨W.heap.size, 0, none⟩) 1 1]).run Try.prog (W.alloc (.cells #[.int .i64 e.k.1, .int .i64 e.k.2, .int .i64 e.v, .int .i64 (e.p : Int)] TQ)) = .ok v' w' ∧ (∃ o c, v' = .slice o (ws.length + 1) c) ∧ w'.cell? ⟨B7, 0, none⟩ = some (.slice wo wn wc) ∧ w'.frozen? ⟨B7, 0, none⟩ = false ∧ Below w.heap.size w w' ∧ Below w.heap.size w (w'.setCell ⟨B7, 0, none⟩ v') ∧ Hid (WS w (w'.setCell ⟨B7, 0, none⟩ v') D M L B3 B4 B5 B7 es (ws ++ [e]) mv v') := by
  have hal : Below W.heap.size W (W.alloc (.cells #[.int .i64 e.k.1, .int .i64 e.k.2, .int .i64 e.v, .int .i64 (e.p : Int)] TQ)) := (Below.refl _ _).alloc (Nat.le_refl _) _
  have hA := h.kept hal
  obtain ⟨v', w', hr, h2, h3, _⟩ := run_append_q (w := W.alloc (.cells #[.int .i64 e.k.1, .int .i64 e.k.2, .int .i64 e.v, .int .i64 (e.p : Int)] TQ)) ty w.heap.size (.slice wo wn wc) ws hA.wr (some ⟨W.heap.size, 0, none⟩) 1 1 [e] rfl (pr_src W _ _ _ _ e rfl rfl rfl rfl) (fun e => by cases e) (by simp; omega) hA.wd.sz
  obtain ⟨ao, cap, hv, _⟩ := h2.slice
  rw [List.length_append] at hv
  have oth : ∀ (k : Nat) (o : Obj), (W.alloc (.cells #[.int .i64 e.k.1, .int .i64 e.k.2, .int .i64 e.v, .int .i64 (e.p : Int)] TQ)).heap[k]? = some o → (∀ cur, o ≠ .cells cur TQ (0, 0)) → w'.heap[k]? = some o := fun k o hk ho => (h3.block k (blk_lt hk) (fun eq => by
    obtain ⟨cur, hc⟩ := hA.wr.blk eq.symm
    rw [hk] at hc
    simp only [Option.some.injEq] at hc
    exact ho cur hc)).trans hk
  have ty : ∀ {cur cur' : Array Value} {t : TypeId}, t ≠ TQ → (Obj.cells cur t (0, 0)) ≠ .cells cur' TQ (0, 0) := fun ht e => by
    simp only [Obj.cells.injEq] at e
    exact ht e.2.1
  have hbw : Below w.heap.size w w' := ⟨h3.os.trans hA.bel.os, h3.tape.trans hA.bel.tape, h3.output.trans hA.bel.output, Nat.le_trans hA.bel.size h3.size, fun k hk => (h3.block k (Nat.lt_of_lt_of_le hk hA.bel.size) (fun eq => by have := (hA.wr.lt k eq.symm).1; omega)).trans (hA.bel.block k hk)⟩
  have hd : WD w' w.heap.size D M L es := by
    refine ⟨hA.wd.da.same (fun k hk => ?_), hA.wd.ge, hA.wd.p0, Nat.le_trans hA.wd.sz h3.size⟩
    rcases hk with rfl | rfl | rfl | ⟨x, he, rfl⟩
    · rw [hA.wd.da.dc]; exact oth _ _ hA.wd.da.dc (fun _ => ty (by decide))
    · obtain ⟨_, _, h1, _⟩ := hA.wd.da.mp
      rw [h1]; exact oth _ _ h1 (fun _ e => by cases e)
    · obtain ⟨_, h1, _⟩ := hA.wd.da.ln
      rw [h1]; exact oth _ _ h1 (fun _ => ty (by decide))
    · obtain ⟨_, _, h1⟩ := hA.wd.da.entry he
      rw [h1]; exact oth _ _ h1 (fun _ => ty (by decide))
  have hb7 : w'.heap[B7]? = some (.cells #[.slice wo wn wc] TQs (0, 0)) := oth _ _ hA.b7 (fun _ => ty (by decide))
  have hfin : WS w (w'.setCell ⟨B7, 0, none⟩ v') D M L B3 B4 B5 B7 es (ws ++ [e]) mv v' := by
    have oth2 : ∀ (k : Nat) (o : Obj), w'.heap[k]? = some o → (∀ cur, o ≠ .cells cur TQs (0, 0)) → (w'.setCell ⟨B7, 0, none⟩ v').heap[k]? = w'.heap[k]? := fun k o hk ho => heap_setCell_other _ _ _ _ (fun e => by
      have e' : k = B7 := e
      rw [e', hb7] at hk
      simp only [Option.some.injEq] at hk
      exact ho _ hk.symm)
    have ty2 : ∀ {cur cur' : Array Value} {t : TypeId}, t ≠ TQs → (Obj.cells cur t (0, 0)) ≠ .cells cur' TQs (0, 0) := fun ht e => by
      simp only [Obj.cells.injEq] at e
      exact ht e.2.1
    have k3 := oth _ _ hA.b3 (fun _ => ty (by decide))
    have k4 := oth _ _ hA.b4 (fun _ => ty (by decide))
    have k5 := oth _ _ hA.b5 (fun _ => ty (by decide))
    refine ⟨⟨hd.da.same (fun k hk => ?_), hd.ge, hd.p0, by simpa using hd.sz⟩, (oth2 _ _ k3 (fun _ => ty2 (by decide))).trans k3, (oth2 _ _ k4 (fun _ => ty2 (by decide))).trans k4, (oth2 _ _ k5 (fun _ => ty2 (by decide))).trans k5, heap_setCell_same w' B7 0 _ _ _ hb7, h2.same (fun g hg => ?_), hbw.setCell (p := ⟨B7, 0, none⟩) hB _⟩
    · rcases hk with rfl | rfl | rfl | ⟨x, he, rfl⟩
      · exact oth2 _ _ hd.da.dc (fun _ => ty2 (by decide))
      · obtain ⟨_, _, h1, _⟩ := hd.da.mp
        exact oth2 _ _ h1 (fun _ e => by cases e)
      · obtain ⟨_, h1, _⟩ := hd.da.ln
        exact oth2 _ _ h1 (fun _ => ty2 (by decide))
      · obtain ⟨_, _, h1⟩ := hd.da.entry he
        exact oth2 _ _ h1 (fun _ => ty2 (by decide))
    · obtain ⟨cur, hc⟩ := h2.blk hg
      exact oth2 _ _ hc (fun _ => ty2 (by decide))
  exact ⟨v', w', hr, ⟨ao, cap, hv⟩, by rw [World.cell?, hb7]; rfl, frozen_of_row _ _ 0 _ _ hb7, hbw, hfin.bel, hfin⟩
theorem fd_flt (es : List En) (x : K) : fd (es.filter (fun e => !decide (e.k = x))) x = none := by
  unfold fd
  rw [List.find?_eq_none]
  intro e he
  rw [List.mem_filter] at he
  simpa using he.2
theorem flt_take {ws : List En} {j : Nat} (h : j < ws.length) (x : K) : (ws.take (j + 1)).filter (fun e => !decide (e.k = x)) = (ws.take j).filter (fun e => !decide (e.k = x)) ++ (if ws[j].k = x then [] else [ws[j]]) := by
  rw [List.take_succ_eq_append_getElem h, List.filter_append]
  congr 1
  by_cases hz : ws[j].k = x
  · simp [hz]
  · simp [hz]
set_option maxHeartbeats 8000000 in
set_option maxRecDepth 100000 in
theorem walks_any (w : World) (ao mo : Option Addr) (n cap m mcap : Nat) (L Mk : List K) (hn : n = L.length) (hL : KeysAt w ao L) (hin : ∀ k ∈ L, KIn k) (hm : m = Mk.length) (hM : KeysAt w mo Mk) (hmn : ∀ k ∈ Mk, KIn k) (hN : n ≤ 1000000000) (hMm : m ≤ 1000000000) :
    Calls Try.prog 3 #[.slice ao n cap, .slice mo m mcap] w fun e w' => e = .returned (.bool true) ∧ Below w.heap.size w w' := by
  have HL : Hid (∀ W, Below w.heap.size w W → KeysAt W ao L) := fun W hW => hL.kept hW
  have HMk : Hid (∀ W, Below w.heap.size w W → KeysAt W mo Mk) := fun W hW => hM.kept hW
  have HN : Hid (n = L.length ∧ ∀ k ∈ L, KIn k) := ⟨hn, hin⟩
  have HMn : Hid (m = Mk.length ∧ ∀ k ∈ Mk, KIn k) := ⟨hm, hmn⟩
  clear hL hn hin hM hm hmn
  refine (callsIn_wide (n := 10)).1 ?_
  refine callsIn_of_wp_marks Try.func3 rfl trivial ?_ rfl
  refine wpIn_wide.2 ?_
  simp only [Try.ntmps3, List.size_toArray, List.length_cons, List.length_nil, Nat.reduceAdd, Nat.reduceSub, Array.replicate_succ, Array.replicate_zero, List.push_toArray, List.append_toArray, List.nil_append, List.cons_append]
  go_upto_region 1 with fail
  obtain ⟨W0, hW0⟩ : ∃ W0, W0 = (w.alloc (.cells #[.slice mo m mcap] 22)).alloc (.cells #[.bool false] 4) := ⟨_, rfl⟩
  have HB0 : Hid (Below w.heap.size w W0 ∧ W0.heap[w.heap.size]? = some (.cells #[.slice mo m mcap] 22 (0, 0)) ∧ W0.heap[w.heap.size + 1]? = some (.cells #[.bool false] 4 (0, 0)) ∧ w.heap.size + 1 < W0.heap.size) := by
    rw [Hid, hW0]
    exact ⟨((Below.refl _ _).alloc (Nat.le_refl _) _).alloc (by simp) _, (heap_alloc_old _ _ (by simp)).trans (heap_alloc_new _ _ rfl), heap_alloc_new _ _ (by simp), by simp⟩
  rw [← hW0]
  clear hW0
  obtain ⟨B3, hB3⟩ : ∃ B3, B3 = w.heap.size := ⟨_, rfl⟩
  obtain ⟨B4, hB4⟩ : ∃ B4, B4 = w.heap.size + 1 := ⟨_, rfl⟩
  have HB4w : Hid (w.heap.size ≤ B4) := by rw [Hid, hB4]; omega
  rw [← hB4] at HB0 ⊢
  rw [← hB3]
  have HB3 : Hid (B3 = w.heap.size) := hB3
  clear hB3 hB4
  go_wp2_with fail
  refine (new_nil W0 3 (by omega) (by omega)).mono ?_
  rintro e W1 ⟨D, M, Ld, rfl, hda, hge, hb1⟩
  obtain ⟨W3, hW3⟩ : ∃ W3, W3 = (W1.alloc (.cells #[ptr D] TDp)).alloc (.cells #[.slice none 0 0] TQs) := ⟨_, rfl⟩
  obtain ⟨B5, hB5⟩ : ∃ B5, B5 = W1.heap.size := ⟨_, rfl⟩
  obtain ⟨B7, hB7⟩ : ∃ B7, B7 = W1.heap.size + 1 := ⟨_, rfl⟩
  have hb13 : Below W1.heap.size W1 W3 := by rw [hW3]; exact ((Below.refl _ _).alloc (Nat.le_refl _) _).alloc (by simp) _
  have HS0 : Hid (WS w W3 D M Ld B3 B4 B5 B7 [] [] (.slice mo m mcap) (.slice none 0 0)) := by
    have hx := HB0.out
    have hs1 := hb1.size
    have hw0 := hx.1.size
    have h1 : Below W0.heap.size W0 W3 := hb1.trans (hb13.mono hs1)
    refine ⟨⟨hda.kept hb13, ⟨by omega, by omega, by omega, by simp⟩, by simp, by have := hb13.size; omega⟩, ?_, ?_, ?_, ?_, OwnQ.nil _ _, hx.1.trans (h1.mono hx.1.size)⟩
    · rw [HB3.out]; exact (h1.block _ (blk_lt hx.2.1)).trans hx.2.1
    · exact (h1.block _ (blk_lt hx.2.2.1)).trans hx.2.2.1
    · rw [hW3, hB5]; exact (heap_alloc_old _ _ (by simp)).trans (heap_alloc_new _ _ rfl)
    · rw [hW3, hB7]; exact heap_alloc_new _ _ (by simp)
  have HB7 : Hid (w.heap.size ≤ B7) := by have := HB0.out.1.size; have := hb1.size; rw [Hid, hB7]; omega
  clear hda hge hb1 hb13 HB0
  go_upto_region 5 with fail
  rw [← hW3]
  rw [← hB7, ← hB5]
  clear hW3 hB5 hB7
  go_wp2_with fail
  go_loopw [8, 9, 10, 11, 12] (fun i _ _ _ _ wr => ∃ (k : Nat) (es ws : List En) (wo : Option Addr) (wn wc : Nat), k ≤ n ∧ i = .int .i64 (k : Int) ∧ Hid (WS w wr D M Ld B3 B4 B5 B7 es ws (.slice mo m mcap) (.slice wo wn wc)) ∧ Hid (ws.map pq = es.map pq ∧ wn = ws.length) ∧ es.length ≤ k ∧ (0 < k → 0 < es.length)) (fun i _ _ _ _ _ => n - (intOf i).toNat)
  case atStart => exact ⟨0, [], [], none, 0, 0, Nat.zero_le _, rfl, HS0, ⟨rfl, rfl⟩, by simp, by omega⟩
  case round =>
    clear HS0
    obtain ⟨k, es, ws, wo, wn, wc, hk, rfl, HS, HQ, hlen, hpos⟩ := hrel
    by_cases hlt : k < n
    · have hkl : k < L.length := by have := HN.out.1; omega
      obtain ⟨b, off, hao, c1⟩ : ∃ b off, ao = some ⟨b, off, none⟩ ∧ ∀ W, Below w.heap.size w W → W.cell? ⟨b, off + k * 2, none⟩ = some (.int .i64 (kd L k).1) ∧ W.cell? ⟨b, off + k * 2 + 1, none⟩ = some (.int .i64 (kd L k).2) := by
        rcases HL.out w (Below.refl _ _) with h0 | ⟨b, off, e, hc⟩
        · rw [h0] at hkl; simp at hkl
        · refine ⟨b, off, e, fun W hW => ⟨?_, ?_⟩⟩
          · exact (hW.cell (p := ⟨b, off + k * 2, none⟩) (cell_lt (p := ⟨b, off + k * 2, none⟩) (KeysAt.at hc k hkl).1)).trans (KeysAt.at hc k hkl).1
          · exact (hW.cell (p := ⟨b, off + k * 2 + 1, none⟩) (cell_lt (p := ⟨b, off + k * 2 + 1, none⟩) (KeysAt.at hc k hkl).2)).trans (KeysAt.at hc k hkl).2
      have HC := fold_hid c1
      have HK : Hid (KIn (kd L k)) := HN.out.2 _ (kd_mem hkl)
      subst hao
      clear c1
      generalize kd L k = z at *
      obtain ⟨z1, z2⟩ := z
      have HPut : Hid (∀ W es', WD W w.heap.size D M Ld es' → es'.length ≤ 2000000000 → Calls Try.prog 5 #[ptr D, .agg #[.int .i64 z1, .int .i64 z2], .int .i64 (k : Int)] W fun e w' => (∃ a, e = .returned (.tuple #[.int .i64 a, .bool (fd es' (z1, z2)).isSome])) ∧ FrK w.heap.size W w' ∧ (((fd es' (z1, z2)).isSome = true ∧ WD w' w.heap.size D M Ld (es'.map (ud (z1, z2) (k : Int)))) ∨ (fd es' (z1, z2) = none ∧ ∃ E, WD w' w.heap.size D M Ld (es' ++ [⟨E, (z1, z2), (k : Int), 0⟩])))) := fun W es' h hl => wput_any W _ D M Ld es' (z1, z2) (k : Int) h HK.out (by unfold In64; omega) (by omega)
      have hbd : Below wr.heap.size wr wr.drew := below_drew0' wr
      have HP1 := fold_hid (HPut.out wr.drew es (HS.out.wd.kept hbd) (by omega))
      have HSd := fold_hid (HS.out.kept hbd)
      obtain ⟨_, _, x5, _⟩ := HS.out.cells
      obtain ⟨y0, y1⟩ := HC.out wr HS.out.bel
      simp only at y0 y1
      have hki : ¬ ((n : Int) ≤ (k : Int)) := by omega
      clear hbd
      go_wp2_with fail
      go_region_held3 (fun w' => w'.cell? ⟨B5, 0, none⟩ = some (ptr D) ∧ w'.cell? ⟨b, off + k * 2, none⟩ = some (.int .i64 z1) ∧ w'.cell? ⟨b, off + k * 2 + 1, none⟩ = some (.int .i64 z2)) (first | with_reducible exact HC5.out | go_keep) (first | (go_at_call 5; with_reducible refine HP1.out.mono ?_; rintro e w5 ⟨⟨a5, rfl⟩, hf5, hp5⟩; have HF5 := fold_hid hf5; have HP5 := fold_hid hp5; have HC5 := fold_hid (And.intro (blkc5 HSd.out hf5) (HC.out w5 (HSd.out.bel.trans hf5.below))); clear hf5 hp5))
      cases hfd : fd es (z1, z2) with
      | none =>
        have hE : ∃ E, WD w5 w.heap.size D M Ld (es ++ [⟨E, (z1, z2), (k : Int), 0⟩]) := by
          rcases HP5.out with ⟨h9, _⟩ | ⟨_, h9⟩
          · rw [hfd] at h9; cases h9
          · exact h9
        obtain ⟨E, hwd⟩ := hE
        have HS5 := fold_hid (HSd.out.dict HF5.out hwd)
        have HQ5 : Hid ((ws ++ [(⟨E, (z1, z2), (k : Int), 0⟩ : En)]).map pq = (es ++ [(⟨E, (z1, z2), (k : Int), 0⟩ : En)]).map pq) := by rw [Hid, List.map_append, List.map_append, HQ.out.1]
        have hl5 : (es ++ [(⟨E, (z1, z2), (k : Int), 0⟩ : En)]).length ≤ k + 1 ∧ (0 < k + 1 → 0 < (es ++ [(⟨E, (z1, z2), (k : Int), 0⟩ : En)]).length) := by simp; omega
        clear hwd HP5 HF5 HSd HP1 x5 y0 y1 HC5
        rw [show (none : Option En).isSome = false from rfl]
        go_upto_region 19 with fail
        have hbd : Below w5.heap.size w5 w5.drew := below_drew0' w5
        have HSq := fold_hid (HS5.out.kept hbd)
        have hS0 := HC.out w5.drew HSq.out.bel
        have hbo : ∀ o, Below w5.heap.size w5 (w5.drew.alloc o) := fun o => hbd.alloc hbd.size o
        have hS3 := fun o => HC.out (w5.drew.alloc o) (HS5.out.kept (hbo o)).bel
        obtain ⟨_, _, _, a7⟩ := HSq.out.cells
        obtain ⟨_, _, _, a7w⟩ := HS5.out.cells
        have a7' : ∀ o, (w5.alloc o).cell? ⟨B7, 0, none⟩ = some (.slice wo wn wc) := fun o => (HS5.out.kept (hbo o)).cells.2.2.2
        have a7d : ∀ o, (w5.alloc o).drew.cell? ⟨B7, 0, none⟩ = some (.slice wo wn wc) := fun o => (HS5.out.kept (hbo o)).cells.2.2.2
        have HAp : Hid (∀ ty, ∃ v' w', (Builtin.append_ #[TQs, TQs] ty #[.slice wo wn wc, .slice (some ⟨w5.heap.size, 0, none⟩) 1 1]).run Try.prog (w5.alloc (.cells #[.int .i64 z1, .int .i64 z2, .int .i64 (k : Int), .int .i64 0] TQ)).drew = .ok v' w' ∧ (∃ o c, v' = .slice o (ws.length + 1) c) ∧ w'.cell? ⟨B7, 0, none⟩ = some (.slice wo wn wc) ∧ w'.frozen? ⟨B7, 0, none⟩ = false ∧ (w'.cell? ⟨b, off + k * 2, none⟩ = some (.int .i64 z1) ∧ w'.cell? ⟨b, off + k * 2 + 1, none⟩ = some (.int .i64 z2)) ∧ ((w'.setCell ⟨B7, 0, none⟩ v').cell? ⟨b, off + k * 2, none⟩ = some (.int .i64 z1) ∧ (w'.setCell ⟨B7, 0, none⟩ v').cell? ⟨b, off + k * 2 + 1, none⟩ = some (.int .i64 z2)) ∧ Hid (WS w (w'.setCell ⟨B7, 0, none⟩ v') D M Ld B3 B4 B5 B7 (es ++ [(⟨E, (z1, z2), (k : Int), 0⟩ : En)]) (ws ++ [(⟨E, (z1, z2), (k : Int), 0⟩ : En)]) (.slice mo m mcap) v')) := fun ty => by
          obtain ⟨v', w', q1, q2, q3, q4, q5, q6, q7⟩ := HSq.out.more (⟨E, (z1, z2), (k : Int), 0⟩ : En) (by have := HQ.out; have h9 := congrArg List.length this.1; simp at h9; omega) HB7.out ty
          exact ⟨v', w', q1, q2, q3, q4, HC.out w' q5, HC.out _ q6, q7⟩
        clear hbo HSq hbd
        refine wp_region_noPanic ?_
        refine wp_region_held_drew (S := fun w' => w'.cell? ⟨b, off + k * 2, none⟩ = some (.int .i64 z1) ∧ w'.cell? ⟨b, off + k * 2 + 1, none⟩ = some (.int .i64 z2)) (by kernel_rfl) ?_ (fun hHeld => ?_)
        · exact hS0
        refine wpAnyH_take (i := 1) (v := .slice (some ⟨b, off, none⟩) n cap) rfl (by kernel_rfl) (by kernel_rfl) (by kernel_rfl) (fun _ _ _ h => h) (Or.inl ⟨by rfl, by intro w hSw; (try dsimp only at hSw); go_simp⟩) (by assumption) ?_
        refine wpAnyH_take (i := 2) (v := .int .i64 (k : Int)) rfl (by kernel_rfl) (by kernel_rfl) (by kernel_rfl) (fun _ _ _ h => h) (Or.inl ⟨by rfl, by intro w hSw; (try dsimp only at hSw); go_simp⟩) (by assumption) ?_
        refine wpAnyH_take (i := 3) (v := .pointer (some ⟨b, off + k * 2, none⟩)) rfl (by kernel_rfl) (by kernel_rfl) (by kernel_rfl) (fun _ _ _ h => h) (Or.inl ⟨by rfl, by intro w hSw; (try dsimp only at hSw); go_simp⟩) (by assumption) ?_
        refine wpAnyH_take (i := 4) (v := .agg #[.int .i64 z1, .int .i64 z2]) rfl (by kernel_rfl) (by kernel_rfl) (by kernel_rfl) (fun _ _ _ h => h) (Or.inl ⟨by rfl, by intro w hSw; (try dsimp only at hSw); go_simp⟩) (by assumption) ?_
        refine wpAnyH_take (i := 5) (v := .int .i64 (k : Int)) rfl (by kernel_rfl) (by kernel_rfl) (by kernel_rfl) (fun _ _ _ h => h) (Or.inl ⟨by rfl, by intro w hSw; (try dsimp only at hSw); go_simp⟩) (by assumption) ?_
        refine wpAnyH_take (i := 6) (v := .agg #[.int .i64 z1, .int .i64 z2, .int .i64 (k : Int), .int .i64 0]) rfl (by kernel_rfl) (by kernel_rfl) (by kernel_rfl) (fun _ _ _ h => h) (Or.inl ⟨by rfl, by intro w hSw; (try dsimp only at hSw); go_simp⟩) (by assumption) ?_
        refine wpAnyH_ready (rs := [0, 7]) (by kernel_rfl) (by simp) ?_
        refine AllReadyH.cons rfl (fun K hK => ?_) ?_
        · go_simp
          refine hK.out _ _ (by assumption) (fun hHeld => ?_)
          clear hK K
          refine wpAnyH_ready (rs := [7]) (by kernel_rfl) (by simp) ?_
          refine AllReadyH.cons rfl (fun K hK => ?_) ?_
          · go_simp
            refine hK.out _ _ (by exact hS3 _) (fun hHeld => ?_)
            clear hK K
            refine wpAnyH_ready (rs := [8]) (by kernel_rfl) (by simp) ?_
            refine AllReadyH.cons rfl (fun K hK => ?_) ?_
            · refine step_appW rfl _ _ TQs rfl (.slice wo wn wc) (.slice (some ⟨w5.heap.size, 0, none⟩) 1 1) rfl rfl HAp.out ?_
              rintro v' w9 ⟨⟨o9, c9, rfl⟩, t1, t2, t3, t4, HP9⟩
              refine hK.out _ _ (by exact t3) (fun hHeld => ?_)
              clear hK K
              refine wpAnyH_ready (rs := [9]) (by kernel_rfl) (by simp) ?_
              refine AllReadyH.cons rfl (fun K hK => ?_) ?_
              · go_simp
                refine hK.out _ _ (by exact t4) (fun hHeld => ?_)
                clear hK K
                refine wpAnyH_done (by kernel_rfl) ?_ _
                clear t1 t2 t3 t4
                refine NoPanic.normal ?_
                go_wp2_with fail
                first | go_roundw | (apply_assumption; go_wp2_with fail; go_roundw)
                case rel => exact ⟨k + 1, _, _, o9, _, c9, by omega, by go_num, HP9, ⟨HQ5.out, by first | (rw [List.length_append]; rfl) | simp⟩, hl5.1, hl5.2⟩
                case measure => simp [intOf]; omega
              exact AllReadyH.nil
            exact AllReadyH.nil
          exact AllReadyH.nil
        refine AllReadyH.cons rfl (fun K hK => ?_) ?_
        · go_simp
          refine hK.out _ _ (by exact hS3 _) (fun hHeld => ?_)
          clear hK K
          refine wpAnyH_ready (rs := [0]) (by kernel_rfl) (by simp) ?_
          refine AllReadyH.cons rfl (fun K hK => ?_) ?_
          · go_simp
            refine hK.out _ _ (by assumption) (fun hHeld => ?_)
            clear hK K
            refine wpAnyH_ready (rs := [8]) (by kernel_rfl) (by simp) ?_
            refine AllReadyH.cons rfl (fun K hK => ?_) ?_
            · refine step_appW rfl _ _ TQs rfl (.slice wo wn wc) (.slice (some ⟨w5.heap.size, 0, none⟩) 1 1) rfl rfl HAp.out ?_
              rintro v' w9 ⟨⟨o9, c9, rfl⟩, t1, t2, t3, t4, HP9⟩
              refine hK.out _ _ (by exact t3) (fun hHeld => ?_)
              clear hK K
              refine wpAnyH_ready (rs := [9]) (by kernel_rfl) (by simp) ?_
              refine AllReadyH.cons rfl (fun K hK => ?_) ?_
              · go_simp
                refine hK.out _ _ (by exact t4) (fun hHeld => ?_)
                clear hK K
                refine wpAnyH_done (by kernel_rfl) ?_ _
                clear t1 t2 t3 t4
                refine NoPanic.normal ?_
                go_wp2_with fail
                first | go_roundw | (apply_assumption; go_wp2_with fail; go_roundw)
                case rel => exact ⟨k + 1, _, _, o9, _, c9, by omega, by go_num, HP9, ⟨HQ5.out, by first | (rw [List.length_append]; rfl) | simp⟩, hl5.1, hl5.2⟩
                case measure => simp [intOf]; omega
              exact AllReadyH.nil
            exact AllReadyH.nil
          exact AllReadyH.nil
        exact AllReadyH.nil
      | some e0 =>
        have hwd : WD w5 w.heap.size D M Ld (es.map (ud (z1, z2) (k : Int))) := by
          rcases HP5.out with ⟨_, h9⟩ | ⟨h9, _⟩
          · exact h9
          · rw [hfd] at h9; cases h9
        have HS5 := fold_hid (HSd.out.dict HF5.out hwd)
        have HS5d := fold_hid (HS5.out.kept (below_drew0' w5))
        have HT6 := fold_hid (wtake_any w5.drew _ D M Ld _ (z1, z2) HS5d.out.wd HK.out (by simp; omega))
        rw [filter_ud] at HT6
        clear hwd HP5 HF5 HSd HP1 x5 y0 y1
        rw [show (some e0).isSome = true from rfl]
        obtain ⟨_, _, x5, _⟩ := HS5.out.cells
        obtain ⟨y0, y1⟩ := HC.out w5 HS5.out.bel
        try simp only at y0 y1
        clear HC5
        go_upto_region 10 with fail
        go_region_held3 (fun w' => w'.cell? ⟨B5, 0, none⟩ = some (ptr D) ∧ w'.cell? ⟨b, off + k * 2, none⟩ = some (.int .i64 z1) ∧ w'.cell? ⟨b, off + k * 2 + 1, none⟩ = some (.int .i64 z2)) (first | with_reducible exact HC6.out | go_keep) (first | (go_at_call 6; with_reducible refine HT6.out.mono ?_; rintro e w6 ⟨⟨a6, b6, rfl⟩, hf6, hp6⟩; have HS6 := fold_hid (HS5d.out.dict hf6 hp6); have HC6 := fold_hid (And.intro (blkc5 HS5d.out hf6) (HC.out w6 (HS5d.out.bel.trans hf6.below))); clear hf6 hp6))
        have HS6d := fold_hid (HS6.out.kept (below_drew0' w6))
        have HP7 := fold_hid (HPut.out w6.drew (es.filter (fun e => !decide (e.k = (z1, z2)))) HS6d.out.wd (by have := List.length_filter_le (fun e => !decide (e.k = (z1, z2))) es; omega))
        rw [fd_flt] at HP7
        clear HS5 HS5d HT6 x5 y0 y1 HC6
        obtain ⟨_, _, x5, _⟩ := HS6.out.cells
        obtain ⟨y0, y1⟩ := HC.out w6 HS6.out.bel
        try simp only at y0 y1
        go_upto_region 11 with fail
        go_region_held3 (fun w' => w'.cell? ⟨B5, 0, none⟩ = some (ptr D) ∧ w'.cell? ⟨b, off + k * 2, none⟩ = some (.int .i64 z1) ∧ w'.cell? ⟨b, off + k * 2 + 1, none⟩ = some (.int .i64 z2)) (first | with_reducible exact HC7.out | go_keep) (first | (go_at_call 5; with_reducible refine HP7.out.mono ?_; rintro e w7 ⟨⟨a7, rfl⟩, hf7, hp7⟩; have HC7 := fold_hid (And.intro (blkc5 HS6d.out hf7) (HC.out w7 (HS6d.out.bel.trans hf7.below))); have HF7 := fold_hid hf7; have HP7' := fold_hid hp7; clear hf7 hp7))
        obtain ⟨E, hwd⟩ : ∃ E, WD w7 w.heap.size D M Ld (es.filter (fun e => !decide (e.k = (z1, z2))) ++ [⟨E, (z1, z2), (k : Int), 0⟩]) := by
          rcases HP7'.out with ⟨h9, _⟩ | ⟨_, h9⟩
          · cases h9
          · exact h9
        have HS7 := fold_hid (HS6d.out.dict HF7.out hwd)
        have hwn := HQ.out.2
        subst hwn
        have hwl : ws.length ≤ 1000000000 := by
          have h9 := congrArg List.length HQ.out.1
          simp at h9
          omega
        clear hwd HP7' HF7 HS6d HP7 x5 y0 y1 HC7 HS6 HPut
        go_wp2_with fail
        go_loopw [11, 12] (fun l i wx => ∃ (j : Nat) (a : Option Addr) (m9 c : Nat), j ≤ ws.length ∧ l = .slice a m9 c ∧ i = .int .i64 (j : Int) ∧ Hid (OwnQ wx w7.heap.size (.slice a m9 c) ((ws.take j).filter (fun e => !decide (e.k = (z1, z2))))) ∧ Hid (Below w7.heap.size w7 wx)) (fun _ i _ => ws.length - (intOf i).toNat)
        case atStart => exact ⟨0, none, 0, 0, Nat.zero_le _, rfl, rfl, OwnQ.nil _ _, Below.refl _ _⟩
        case round =>
          obtain ⟨j, a, m9, c, hj, rfl, rfl, HO, HB⟩ := hrel
          have HSx := fold_hid (HS7.out.kept HB.out)
          obtain ⟨_, _, _, x7⟩ := HSx.out.cells
          by_cases hjl : j < ws.length
          · obtain ⟨ao9, cap9, he9, hpr, _⟩ := HSx.out.wr.slice
            obtain ⟨rfl, rfl⟩ : wo = ao9 ∧ wc = cap9 := by cases he9; exact ⟨rfl, rfl⟩
            obtain ⟨g9, o9, hao, hc⟩ : ∃ g9 o9, wo = some ⟨g9, o9, none⟩ ∧ ∀ j u, (cpq ws)[j]? = some u → wr.cell? ⟨g9, o9 + j, none⟩ = some u := by
              rcases hpr with h0 | h0
              · rw [h0] at hjl; simp at hjl
              · exact h0
            obtain ⟨y0, y1, y2, y3⟩ := PrAt.cells hc j hjl
            subst hao
            have HT := fold_hid (flt_take hjl (z1, z2))
            have HFl : Hid (((ws.take j).filter (fun e => !decide (e.k = (z1, z2)))).length ≤ 1000000000) := Nat.le_trans (List.length_filter_le _ _) (by rw [List.length_take]; omega)
            obtain ⟨q0, q1⟩ := HC.out wr HSx.out.bel
            try simp only at q0 q1
            have hjI : (j : Int) < (ws.length : Int) := by omega
            have hjN : ¬ ((ws.length : Int) ≤ (j : Int)) := by omega
            generalize ws[j] = x at *
            clear hc hpr he9
            obtain ⟨xb, ⟨x1, x2⟩, xv, xp⟩ := x
            simp only at y0 y1 y2 y3
            by_cases hz : (x1, x2) = (z1, z2)
            · have HO5 : Hid (OwnQ wr w7.heap.size (.slice a m9 c) ((ws.take (j + 1)).filter (fun e => !decide (e.k = (z1, z2))))) := by rw [Hid, HT.out, if_pos hz, List.append_nil]; exact HO.out
              have hq := run_neKey x1 x2 z1 z2
              rw [show decide ((x1, x2) = (z1, z2)) = true by simpa using hz] at hq
              simp only [Bool.not_true] at hq
              have hgd := fun op x y => run_eqGuard op x y x1 x2 z1 z2
              clear hz HT HO HSx
              go_wp2_with fail
              go_quiet (fail)
              have HB5 : Hid (Below w7.heap.size w7 (wr.drewN nq)) := ⟨HB.out.os, HB.out.tape, HB.out.output, HB.out.size, HB.out.block⟩
              have HO6 := fold_hid (HO5.out.drewN nq)
              go_wp2_with fail
              go_roundw
              case rel => exact ⟨j + 1, a, m9, c, by omega, rfl, by go_num, HO6, HB5⟩
              case measure => simp [intOf]; omega
            · have hq := run_neKey x1 x2 z1 z2
              rw [show decide ((x1, x2) = (z1, z2)) = false by simpa using hz] at hq
              simp only [Bool.not_false] at hq
              have hgd := fun op x y => run_eqGuard op x y x1 x2 z1 z2
              have HT2 : Hid ((ws.take (j + 1)).filter (fun e => !decide (e.k = (z1, z2))) = (ws.take j).filter (fun e => !decide (e.k = (z1, z2))) ++ [(⟨xb, (x1, x2), xv, xp⟩ : En)]) := by rw [Hid, HT.out, if_neg hz]
              clear hz HT HSx
              go_wp2_with fail
              go_quiet (fail)
              have HB5 : Hid (Below w7.heap.size w7 (wr.drewN nq)) := ⟨HB.out.os, HB.out.tape, HB.out.output, HB.out.size, HB.out.block⟩
              have HO6 := fold_hid (HO.out.drewN nq)
              have x7' : (wr.drewN nq).cell? ⟨B7, 0, none⟩ = some (.slice (some ⟨g9, o9, none⟩) ws.length wc) := x7
              have y0' : (wr.drewN nq).cell? ⟨g9, o9 + j * 4, none⟩ = some (.int .i64 x1) := y0
              have y1' : (wr.drewN nq).cell? ⟨g9, o9 + j * 4 + 1, none⟩ = some (.int .i64 x2) := y1
              have y2' : (wr.drewN nq).cell? ⟨g9, o9 + j * 4 + 2, none⟩ = some (.int .i64 xv) := y2
              have y3' : (wr.drewN nq).cell? ⟨g9, o9 + j * 4 + 3, none⟩ = some (.int .i64 (xp : Int)) := y3
              clear x7 y0 y1 y2 y3 q0 q1 hq hgd HO HB
              generalize wr.drewN nq = W2 at *
              have hs1 := HB5.out.size
              have HBa : Hid (Below w7.heap.size w7 (W2.alloc (.cells #[.int .i64 x1, .int .i64 x2, .int .i64 xv, .int .i64 (xp : Int)] TQ))) := HB5.out.alloc hs1 _
              go_wp2_with (at_builtin; refine wpList_append_q rfl _ _ rfl w7.heap.size (.slice a m9 c) ((ws.take j).filter (fun e => !decide (e.k = (z1, z2)))) rfl (HO6.out.alloc _) (some ⟨W2.heap.size, 0, none⟩) 1 1 [(⟨xb, (x1, x2), xv, xp⟩ : En)] rfl rfl (pr_src W2 _ _ _ _ _ rfl rfl rfl rfl) (fun e => by cases e) (by have := HFl.out; simp only [List.length_singleton]; omega) (by simp only [World.size_alloc]; omega) ?_; intro v5 w8 ho5 hg5 _; have HO5 : Hid (OwnQ w8 w7.heap.size v5 ((ws.take (j + 1)).filter (fun e => !decide (e.k = (z1, z2))))) := (by rw [Hid, HT2.out]; exact ho5); have HB8 : Hid (Below w7.heap.size w7 w8) := HBa.out.trans (grown_below hg5 (fun q hq => (HO6.out.lt q hq).1) HBa.out.size); obtain ⟨a5, n5, cp5, e5⟩ : ∃ a n c, v5 = .slice a n c := (by obtain ⟨a, c, e, _⟩ := ho5.slice; exact ⟨a, _, c, e⟩); subst e5; clear ho5 hg5)
              go_roundw
              case rel => exact ⟨j + 1, a5, n5, cp5, by omega, rfl, by go_num, HO5, HB8⟩
              case measure => simp [intOf]; omega
          · obtain rfl : j = ws.length := by omega
            have HOf : Hid (OwnQ wr w.heap.size (.slice a m9 c) (ws.filter (fun e => !decide (e.k = (z1, z2))))) := by
              have := HO.out
              rw [List.take_length] at this
              exact this.mono HS7.out.bel.size
            obtain ⟨W8, hW8⟩ : ∃ W8, W8 = wr.setCell ⟨B7, 0, none⟩ (.slice a m9 c) := ⟨_, rfl⟩
            have HS8 : Hid (WS w W8 D M Ld B3 B4 B5 B7 (es.filter (fun e => !decide (e.k = (z1, z2))) ++ [(⟨E, (z1, z2), (k : Int), 0⟩ : En)]) (ws.filter (fun e => !decide (e.k = (z1, z2)))) (.slice mo m mcap) (.slice a m9 c)) := by rw [hW8]; exact HSx.out.want HOf.out HB7.out
            have fz : wr.frozen? ⟨B7, 0, none⟩ = false := frozen_of_row _ _ 0 _ _ HSx.out.b7
            have HQ5 : Hid ((ws.filter (fun e => !decide (e.k = (z1, z2))) ++ [(⟨E, (z1, z2), (k : Int), 0⟩ : En)]).map pq = (es.filter (fun e => !decide (e.k = (z1, z2))) ++ [(⟨E, (z1, z2), (k : Int), 0⟩ : En)]).map pq) := by rw [Hid, List.map_append, List.map_append, pq_filter HQ.out.1]
            have hwf : (ws.filter (fun e => !decide (e.k = (z1, z2)))).length ≤ 1000000000 := Nat.le_trans (List.length_filter_le _ _) hwl
            have hl5 : (es.filter (fun e => !decide (e.k = (z1, z2))) ++ [(⟨E, (z1, z2), (k : Int), 0⟩ : En)]).length ≤ k + 1 ∧ (0 < k + 1 → 0 < (es.filter (fun e => !decide (e.k = (z1, z2))) ++ [(⟨E, (z1, z2), (k : Int), 0⟩ : En)]).length) := by
              have := List.length_filter_le (fun e => !decide (e.k = (z1, z2))) es
              rw [List.length_append, List.length_singleton]
              omega
            clear HSx HS7 HO HOf HB
            go_upto_region 19 with fail
            rw [← hW8]
            clear hW8
            have hbd : Below W8.heap.size W8 W8.drew := below_drew0' W8
            have HSq := fold_hid (HS8.out.kept hbd)
            have hS0 := HC.out W8.drew HSq.out.bel
            have hbo : ∀ o, Below W8.heap.size W8 (W8.drew.alloc o) := fun o => hbd.alloc hbd.size o
            have hS3 := fun o => HC.out (W8.drew.alloc o) (HS8.out.kept (hbo o)).bel
            obtain ⟨_, _, _, a7⟩ := HSq.out.cells
            obtain ⟨_, _, _, a7w⟩ := HS8.out.cells
            have a7' : ∀ o, (W8.alloc o).cell? ⟨B7, 0, none⟩ = some (.slice a m9 c) := fun o => (HS8.out.kept (hbo o)).cells.2.2.2
            have a7d : ∀ o, (W8.alloc o).drew.cell? ⟨B7, 0, none⟩ = some (.slice a m9 c) := fun o => (HS8.out.kept (hbo o)).cells.2.2.2
            have HAp : Hid (∀ ty, ∃ v' w', (Builtin.append_ #[TQs, TQs] ty #[.slice a m9 c, .slice (some ⟨W8.heap.size, 0, none⟩) 1 1]).run Try.prog (W8.alloc (.cells #[.int .i64 z1, .int .i64 z2, .int .i64 (k : Int), .int .i64 0] TQ)).drew = .ok v' w' ∧ (∃ o c, v' = .slice o ((ws.filter (fun e => !decide (e.k = (z1, z2)))).length + 1) c) ∧ w'.cell? ⟨B7, 0, none⟩ = some (.slice a m9 c) ∧ w'.frozen? ⟨B7, 0, none⟩ = false ∧ (w'.cell? ⟨b, off + k * 2, none⟩ = some (.int .i64 z1) ∧ w'.cell? ⟨b, off + k * 2 + 1, none⟩ = some (.int .i64 z2)) ∧ ((w'.setCell ⟨B7, 0, none⟩ v').cell? ⟨b, off + k * 2, none⟩ = some (.int .i64 z1) ∧ (w'.setCell ⟨B7, 0, none⟩ v').cell? ⟨b, off + k * 2 + 1, none⟩ = some (.int .i64 z2)) ∧ Hid (WS w (w'.setCell ⟨B7, 0, none⟩ v') D M Ld B3 B4 B5 B7 (es.filter (fun e => !decide (e.k = (z1, z2))) ++ [(⟨E, (z1, z2), (k : Int), 0⟩ : En)]) (ws.filter (fun e => !decide (e.k = (z1, z2))) ++ [(⟨E, (z1, z2), (k : Int), 0⟩ : En)]) (.slice mo m mcap) v')) := fun ty => by
              obtain ⟨v', w', q1, q2, q3, q4, q5, q6, q7⟩ := HSq.out.more (⟨E, (z1, z2), (k : Int), 0⟩ : En) (by omega) HB7.out ty
              exact ⟨v', w', q1, q2, q3, q4, HC.out w' q5, HC.out _ q6, q7⟩
            clear hbo HSq hbd
            refine wp_region_noPanic ?_
            refine wp_region_held_drew (S := fun w' => w'.cell? ⟨b, off + k * 2, none⟩ = some (.int .i64 z1) ∧ w'.cell? ⟨b, off + k * 2 + 1, none⟩ = some (.int .i64 z2)) (by kernel_rfl) ?_ (fun hHeld => ?_)
            · exact hS0
            refine wpAnyH_take (i := 1) (v := .slice (some ⟨b, off, none⟩) n cap) rfl (by kernel_rfl) (by kernel_rfl) (by kernel_rfl) (fun _ _ _ h => h) (Or.inl ⟨by rfl, by intro w hSw; (try dsimp only at hSw); go_simp⟩) (by assumption) ?_
            refine wpAnyH_take (i := 2) (v := .int .i64 (k : Int)) rfl (by kernel_rfl) (by kernel_rfl) (by kernel_rfl) (fun _ _ _ h => h) (Or.inl ⟨by rfl, by intro w hSw; (try dsimp only at hSw); go_simp⟩) (by assumption) ?_
            refine wpAnyH_take (i := 3) (v := .pointer (some ⟨b, off + k * 2, none⟩)) rfl (by kernel_rfl) (by kernel_rfl) (by kernel_rfl) (fun _ _ _ h => h) (Or.inl ⟨by rfl, by intro w hSw; (try dsimp only at hSw); go_simp⟩) (by assumption) ?_
            refine wpAnyH_take (i := 4) (v := .agg #[.int .i64 z1, .int .i64 z2]) rfl (by kernel_rfl) (by kernel_rfl) (by kernel_rfl) (fun _ _ _ h => h) (Or.inl ⟨by rfl, by intro w hSw; (try dsimp only at hSw); go_simp⟩) (by assumption) ?_
            refine wpAnyH_take (i := 5) (v := .int .i64 (k : Int)) rfl (by kernel_rfl) (by kernel_rfl) (by kernel_rfl) (fun _ _ _ h => h) (Or.inl ⟨by rfl, by intro w hSw; (try dsimp only at hSw); go_simp⟩) (by assumption) ?_
            refine wpAnyH_take (i := 6) (v := .agg #[.int .i64 z1, .int .i64 z2, .int .i64 (k : Int), .int .i64 0]) rfl (by kernel_rfl) (by kernel_rfl) (by kernel_rfl) (fun _ _ _ h => h) (Or.inl ⟨by rfl, by intro w hSw; (try dsimp only at hSw); go_simp⟩) (by assumption) ?_
            refine wpAnyH_ready (rs := [0, 7]) (by kernel_rfl) (by simp) ?_
            refine AllReadyH.cons rfl (fun K hK => ?_) ?_
            · go_simp
              refine hK.out _ _ (by assumption) (fun hHeld => ?_)
              clear hK K
              refine wpAnyH_ready (rs := [7]) (by kernel_rfl) (by simp) ?_
              refine AllReadyH.cons rfl (fun K hK => ?_) ?_
              · go_simp
                refine hK.out _ _ (by exact hS3 _) (fun hHeld => ?_)
                clear hK K
                refine wpAnyH_ready (rs := [8]) (by kernel_rfl) (by simp) ?_
                refine AllReadyH.cons rfl (fun K hK => ?_) ?_
                · refine step_appW rfl _ _ TQs rfl (.slice a m9 c) (.slice (some ⟨W8.heap.size, 0, none⟩) 1 1) rfl rfl HAp.out ?_
                  rintro v' w9 ⟨⟨o9, c9, rfl⟩, t1, t2, t3, t4, HP9⟩
                  refine hK.out _ _ (by exact t3) (fun hHeld => ?_)
                  clear hK K
                  refine wpAnyH_ready (rs := [9]) (by kernel_rfl) (by simp) ?_
                  refine AllReadyH.cons rfl (fun K hK => ?_) ?_
                  · go_simp
                    refine hK.out _ _ (by exact t4) (fun hHeld => ?_)
                    clear hK K
                    refine wpAnyH_done (by kernel_rfl) ?_ _
                    clear t1 t2 t3 t4
                    refine NoPanic.normal ?_
                    go_wp2_with fail
                    first | go_roundw | (apply_assumption; go_wp2_with fail; go_roundw)
                    case rel => exact ⟨k + 1, _, _, o9, _, c9, by omega, by go_num, HP9, ⟨HQ5.out, by first | (rw [List.length_append]; rfl) | simp⟩, hl5.1, hl5.2⟩
                    case measure => simp [intOf]; omega
                  exact AllReadyH.nil
                exact AllReadyH.nil
              exact AllReadyH.nil
            refine AllReadyH.cons rfl (fun K hK => ?_) ?_
            · go_simp
              refine hK.out _ _ (by exact hS3 _) (fun hHeld => ?_)
              clear hK K
              refine wpAnyH_ready (rs := [0]) (by kernel_rfl) (by simp) ?_
              refine AllReadyH.cons rfl (fun K hK => ?_) ?_
              · go_simp
                refine hK.out _ _ (by assumption) (fun hHeld => ?_)
                clear hK K
                refine wpAnyH_ready (rs := [8]) (by kernel_rfl) (by simp) ?_
                refine AllReadyH.cons rfl (fun K hK => ?_) ?_
                · refine step_appW rfl _ _ TQs rfl (.slice a m9 c) (.slice (some ⟨W8.heap.size, 0, none⟩) 1 1) rfl rfl HAp.out ?_
                  rintro v' w9 ⟨⟨o9, c9, rfl⟩, t1, t2, t3, t4, HP9⟩
                  refine hK.out _ _ (by exact t3) (fun hHeld => ?_)
                  clear hK K
                  refine wpAnyH_ready (rs := [9]) (by kernel_rfl) (by simp) ?_
                  refine AllReadyH.cons rfl (fun K hK => ?_) ?_
                  · go_simp
                    refine hK.out _ _ (by exact t4) (fun hHeld => ?_)
                    clear hK K
                    refine wpAnyH_done (by kernel_rfl) ?_ _
                    clear t1 t2 t3 t4
                    refine NoPanic.normal ?_
                    go_wp2_with fail
                    first | go_roundw | (apply_assumption; go_wp2_with fail; go_roundw)
                    case rel => exact ⟨k + 1, _, _, o9, _, c9, by omega, by go_num, HP9, ⟨HQ5.out, by first | (rw [List.length_append]; rfl) | simp⟩, hl5.1, hl5.2⟩
                    case measure => simp [intOf]; omega
                  exact AllReadyH.nil
                exact AllReadyH.nil
              exact AllReadyH.nil
            exact AllReadyH.nil
    · obtain rfl : k = n := by omega
      have hEa := weachN_any wr _ D M Ld es 0 HS.out.wd (by omega)
      rw [HS.out.wd.all] at hEa
      have HEa := fold_hid hEa
      clear hEa
      obtain ⟨_, _, x5, x7⟩ := HS.out.cells
      have hwn := HQ.out.2
      subst hwn
      have hle : ws.length = es.length := by simpa using congrArg List.length HQ.out.1
      go_upto_region 20 with fail
      go_wp2_with fail
      refine HEa.out.mono ?_
      rintro e W5 ⟨B, g, rfl, ⟨hIL, hgt⟩, hb5⟩
      have HS5 := fold_hid (HS.out.kept hb5)
      obtain ⟨W6, hW6⟩ : ∃ W6, W6 = W5.alloc (.cells #[.func (.func fEach) #[] #[ptr B]] 36) := ⟨_, rfl⟩
      obtain ⟨B13, hB13⟩ : ∃ B13, B13 = W5.heap.size := ⟨_, rfl⟩
      have hb56 : Below W5.heap.size W5 W6 := by rw [hW6]; exact (Below.refl _ _).alloc (Nat.le_refl _) _
      have HS6 := fold_hid (HS5.out.kept hb56)
      have HX6 : Hid (WX w W6 D M Ld B3 B4 B5 B7 B13 B g es es ws (.slice mo m mcap) (.slice wo ws.length wc)) := by
        obtain ⟨cur, hgc⟩ := hgt
        exact ⟨HS6.out, hIL.kbg (KBG.below hb56 (blk_lt hIL.box) hIL.gl), ⟨cur, (hb56.block _ (blk_lt hgc)).trans hgc⟩, by rw [hW6, hB13]; exact heap_alloc_new _ _ rfl⟩
      have hLn : Hid (∀ q, Calls Try.prog 8 #[ptr D] (W6.drewN q) fun e w' => e = .returned (.int .i64 (es.length : Int)) ∧ w' = W6.drewN q) := fun q => len_any _ D M Ld 3 _ es (HS6.out.wd.da.same (fun _ _ => rfl))
      clear HS hIL hgt hb5 HS5 hb56 HEa x5 x7
      go_upto_region 21 with fail
      rw [← hW6, ← hB13]
      clear hW6 hB13
      obtain ⟨_, _, x5, x7⟩ := HS6.out.cells
      obtain ⟨N, hN⟩ : ∃ N, N = ws.length := ⟨_, rfl⟩
      rw [← hN] at x7
      rw [← hle, ← hN] at hLn
      have hN0' : 0 < k → N ≠ 0 := fun h => by have := hpos h; omega
      have HNl := fold_hid (And.intro hN hle)
      clear hN hle
      go_cut [114] from 100 to 114 (fun t wx => t = .bool false ∧ ∃ q, wx = W6.drewN q)
      case first =>
        by_cases hk0 : 0 < k
        · have hN0 := hN0' hk0
          clear hN0'
          have hw1 : ((N : Int) == 0) = false := by simp; omega
          have hw3 : decide (0 < k) = true := by simp; omega
          have hw4 : decide ((0 : Int) < (k : Int)) = true := by simp; omega
          go_quiet (first | (go_at_call 8; exact Calls.quiet_of_same (hLn.out _)))
          go_wp2_with fail
          go_meet
          case rel => exact ⟨rfl, nq, rfl⟩
        · clear hN0'
          have hw3 : decide (0 < k) = false := by simp; omega
          have hw4 : decide ((0 : Int) < (k : Int)) = false := by simp; omega
          go_quiet (first | (go_at_call 8; exact Calls.quiet_of_same (hLn.out _)))
          go_wp2_with fail
          go_meet
          case rel => exact ⟨rfl, nq, rfl⟩
      case rest =>
        obtain ⟨rfl, q, rfl⟩ := hcut
        have HX0 : Hid (WX w (W6.drewN q) D M Ld B3 B4 B5 B7 B13 B g es es ws (.slice mo m mcap) (.slice wo ws.length wc)) := HX6.out.fri (FrI.drewN _ _ _)
        have HES : Hid (∀ e ∈ es, KIn e.k ∧ In64 e.v) := fun e he => (HX6.out.s.wd.da.pp e he).2
        have hNe : ws.length = N ∧ es.length = N := ⟨HNl.out.1.symm, by have := HNl.out; omega⟩
        have hNk : N ≤ k := by omega
        clear hN0' HNl HS6 HX6 hLn x5 x7
        have hL5 := hNe.2
        rw [hNe.1] at HX0
        have HLen := fold_hid hNe
        clear hNe hL5
        generalize W6.drewN q = V0 at *
        have HVb : Hid (w.heap.size ≤ V0.heap.size ∧ M < V0.heap.size) := ⟨HX0.out.s.bel.size, by obtain ⟨_, _, hm, _⟩ := HX0.out.s.wd.da.mp; exact blk_lt hm⟩
        have x13 : (V0.alloc (.cells #[.int .i64 0] TInt)).cell? ⟨B13, 0, none⟩ = some (.func (.func fEach) #[] #[ptr B]) := by
          have := (Below.refl V0.heap.size V0).alloc (Nat.le_refl _) (.cells #[.int .i64 0] TInt)
          rw [World.cell?, this.block _ (blk_lt HX0.out.b13), HX0.out.b13]; rfl
        go_wp2_with fail
        have HX1 : Hid (WX w (V0.alloc (.cells #[.int .i64 0] TInt)) D M Ld B3 B4 B5 B7 B13 B g es es ws (.slice mo m mcap) (.slice wo N wc)) := HX0.out.fri (FrI.bel ((Below.refl _ _).alloc (Nat.le_refl _) _) HVb.out.1)
        have bN : Boxed (V0.alloc (.cells #[.int .i64 0] TInt)) V0.heap.size TInt (.int .i64 0) := Boxed.new V0 _ _
        have HVc : Hid (w.heap.size ≤ (V0.alloc (.cells #[.int .i64 0] TInt)).heap.size ∧ M < (V0.alloc (.cells #[.int .i64 0] TInt)).heap.size ∧ w.heap.size ≤ V0.heap.size) := ⟨by have := HVb.out.1; simp; omega, by have := HVb.out.2; simp; omega, HVb.out.1⟩
        clear HX0 HVb x13
        generalize V0.alloc (.cells #[.int .i64 0] TInt) = V1 at *
        generalize V0.heap.size = B14 at *
        refine wp_gen (fun a' => FX B3 B4 B5 B7 B13 B14 a' ∧ a'.defers = [] ∧ a'.tmps.getD 115 undef = .func (.func fEach) #[] #[ptr B]) ⟨⟨rfl, rfl, rfl, rfl, rfl, rfl, rfl⟩, rfl, rfl⟩ ?_
        rintro ⟨tm, df⟩ ⟨hFX, hdf, h115⟩
        have e1 := lit_eq tm hFX.sz
        generalize hf' : (fun i => tm.getD i undef) = f at e1
        have g3 : f 3 = ptr B3 := by rw [← hf']; exact hFX.t3
        have g4 : f 4 = ptr B4 := by rw [← hf']; exact hFX.t4
        have g5 : f 5 = ptr B5 := by rw [← hf']; exact hFX.t5
        have g7 : f 7 = ptr B7 := by rw [← hf']; exact hFX.t7
        have g13 : f 13 = ptr B13 := by rw [← hf']; exact hFX.t13
        have g14 : f 14 = ptr B14 := by rw [← hf']; exact hFX.t14
        have g115 : f 115 = .func (.func fEach) #[] #[ptr B] := by rw [← hf']; exact h115
        unfold lit at e1
        rw [g3, g4, g5, g7, g13, g14, g115] at e1
        simp only at hdf
        subst e1 hdf
        clear hf' g3 g4 g5 g7 g13 g14 g115 hFX
        have HLe : Hid (es.length ≤ 1000000000) := by have h9 := HLen.out.2; exact (show es.length ≤ 1000000000 by omega)
        have hlt1 := bN.lt
        have HB1 : Hid (B < V1.heap.size ∧ g < V1.heap.size) := ⟨blk_lt HX1.out.il.box, HX1.out.il.gl⟩
        refine (wpIn_wide (n := 10)).1 ?_
        refine loop_cut0 (fun W' => (∃ es1 : List En, es1.length ≤ 4000000000 ∧ WX w W' D M Ld B3 B4 B5 B7 B13 B g es es1 ws (.slice mo m mcap) (.slice wo N wc)) ∧ Boxed W' B14 TInt (.int .i64 (N : Int))) ?loop ?rest
        case loop =>
          refine wpIn_rangeFunc_ownH rfl (by omega) (gf := fEach) (lb := #[ptr B]) rfl trivial (enters_of Try.func17 (by kernel_rfl) rfl)
            (each_stops Fence.wide 9 trivial rfl (by omega) B g N es HES.out HLen.out.2.symm (by omega) V1 HX1.out.il) KBG.trans (KBG.put HB1.out.1 HB1.out.2) (Below.refl _ _) (fun _ => rfl)
            (fun pre W' => Chn es HES.out pre ∧ (∃ es1 : List En, es1.length ≤ bnd pre.length ∧ WX w W' D M Ld B3 B4 B5 B7 B13 B g es es1 ws (.slice mo m mcap) (.slice wo N wc)) ∧ Boxed W' B14 TInt (.int .i64 (pre.length : Int)))
            (fun c pre _ => c = .ret ∧ ¬ Chn es HES.out pre)
            (OwnFrom.and (ownFrom_pure _ _) (OwnFrom.and (fun s X Y row hs hg hr => by obtain ⟨es1, h1, h2⟩ := hs; exact ⟨es1, h1, h2.own HVc.out.2.1 HVc.out.1 hg hr⟩) (Own.from (boxed_own _ _ _) _)))
            (fun c => ownFrom_pure _ _)
            ⟨chn_nil es HES.out, ⟨es, bnd_ge _ HLe.out, HX1.out⟩, bN⟩
            (fun x a' W' => ∃ Bx, KBoxed W' Bx x.1.1.1 x.1.1.2 ∧ FX B3 B4 B5 B7 B13 B14 a' ∧ a'.defers = [] ∧ a'.tmps.getD 15 undef = ptr Bx ∧ a'.tmps.getD 16 undef = .int .i64 x.1.2)
            (fun x a' _ X Y row hs hg hr => by obtain ⟨Bx, e2, e3⟩ := hs; exact ⟨Bx, e2.own hg (fun r e => (hr r e).2), e3⟩)
            ?assign ?body ?done ?stop
          case assign =>
            rintro l pre x W' K ⟨hp, ⟨es1, h1, hx⟩, b1⟩ hK
            have hfr : ∀ o, FrI w.heap.size W' (W'.alloc o) := fun o => FrI.bel ((Below.refl _ _).alloc (Nat.le_refl _) _) hx.s.bel.size
            gi_wp2
            exact hK _ _ ((KeepsOthers.alloc _ _).from _) (hx.kfri (hfr _)) ⟨hp, ⟨es1, h1, hx.fri (hfr _)⟩, b1.alloc _⟩ ⟨W'.heap.size, KBoxed.new W' _ _, ⟨rfl, rfl, rfl, rfl, rfl, rfl, rfl⟩, rfl, rfl, rfl⟩
          case done =>
            rintro D' ys W' hD rfl ⟨hp, ⟨es1, h1, hx⟩, b1⟩ hK
            rw [upto_length] at b1 h1
            exact ⟨rfl, D', hD, rfl, ⟨⟨es1, Nat.le_trans h1 (bnd_le _), hx⟩, b1⟩, hK⟩
          case stop =>
            rintro D' c pre W' hD ⟨j, hj, rfl⟩ ⟨_, hn⟩ hK
            exact absurd (chn_upto es HES.out j) hn
          case body =>
            rintro l pre x ⟨tm, df⟩ W' hl ⟨rr, hrr⟩ ⟨hp, ⟨es1, h1, hx⟩, b1⟩ ⟨Bx, bX, hFX, hdf, h15, h16⟩ hlt
            obtain ⟨⟨⟨xt, xr⟩, xv⟩, hxk, hxv⟩ := x
            have e1 := lit_eq tm hFX.sz
            generalize hf' : (fun i => tm.getD i undef) = f at e1
            have g3 : f 3 = ptr B3 := by rw [← hf']; exact hFX.t3
            have g4 : f 4 = ptr B4 := by rw [← hf']; exact hFX.t4
            have g5 : f 5 = ptr B5 := by rw [← hf']; exact hFX.t5
            have g7 : f 7 = ptr B7 := by rw [← hf']; exact hFX.t7
            have g13 : f 13 = ptr B13 := by rw [← hf']; exact hFX.t13
            have g14 : f 14 = ptr B14 := by rw [← hf']; exact hFX.t14
            have g15 : f 15 = ptr Bx := by rw [← hf']; exact h15
            have g16 : f 16 = .int .i64 xv := by rw [← hf']; exact h16
            unfold lit at e1
            rw [g3, g4, g5, g7, g13, g14, g15, g16] at e1
            simp only at hdf
            subst e1 hdf
            clear hf' g3 g4 g5 g7 g13 g14 g15 g16 hFX
            have hltE : pre.length < es.length := by have h9 := HLen.out.2; omega
            have HC0 : Hid (Chn es HES.out (pre ++ [(⟨((xt, xr), xv), hxk, hxv⟩ : PX)]) ↔ (((xt, xr), xv) : K × Int) = (es[pre.length].k, es[pre.length].v)) := chn_snoc (x := (⟨((xt, xr), xv), hxk, hxv⟩ : PX)) hp hltE
            obtain ⟨gq, oq, hwo, y0, y1, y2⟩ := hx.want HQ.out.1 pre.length hltE
            subst hwo
            have HXb := fold_hid hx
            have cN := b1.cell
            obtain ⟨c3, c4, c5, c7⟩ := hx.s.cells
            have k1 := bX.cell.1
            have k2 := bX.cell.2
            simp only at k1 k2
            have f4 := frozen_of_row W' B4 0 _ _ hx.s.b4
            have e1 : decide ((N : Int) ≤ (pre.length : Int)) = false := by simp; omega
            have e2 : decide (N ≤ pre.length) = false := by simp; omega
            clear hx
            by_cases hz : (xt, xr) = es[pre.length].k
            · rw [← hz] at y0 y1
              simp only at y0 y1
              have hq := run_neKey xt xr xt xr
              simp only [decide_true, Bool.not_true] at hq
              have hgd := fun op x y => run_eqGuard op x y xt xr xt xr
              by_cases hv : xv = es[pre.length].v
              · have HC : Hid (Chn es HES.out (pre ++ [(⟨((xt, xr), xv), hxk, hxv⟩ : PX)])) := HC0.out.2 (by rw [hz, hv])
                rw [← hv] at y2
                clear hz hv HC0
                gi_wp2_with fail
                refine region_round (F := Fence.wide) (l := l) rfl (by kernel_rfl) (by kernel_rfl) (by kernel_rfl) ?_
                repeat (gi_big_quiet_step (fail))
                refine wpQuietIn_nil ?_
                intro _ hw'
                obtain ⟨nq, hw''⟩ := hw'
                subst hw''
                have HXV := fold_hid (HXb.out.fri (FrI.drewN w.heap.size W' nq))
                have bV : Boxed (W'.drewN nq) B14 TInt (.int .i64 (pre.length : Int)) := b1
                have bXV : KBoxed (W'.drewN nq) Bx xt xr := bX
                have hrV : (W'.drewN nq).heap[l]? = some (.loop rr) := hrr
                have HR : Hid (KeepsFrom V1.heap.size W' (W'.drewN nq) ∧ KBG B g W' (W'.drewN nq)) := ⟨(keeps_drewN W' nq).from _, HXb.out.kfri (FrI.drewN w.heap.size W' nq)⟩
                clear cN c3 c4 c5 c7 y0 y1 y2 k1 k2 f4 e1 e2 hq hgd HXb b1 bX hrr
                generalize W'.drewN nq = V at *
                have cN := bV.cell
                obtain ⟨c3, c4, c5, c7⟩ := HXV.out.s.cells
                have k1 := bXV.cell.1
                have k2 := bXV.cell.2
                have hb4 : es1.length ≤ 4000000000 := Nat.le_trans h1 (bnd_le _)
                have HH1 := fold_hid h1
                have HLT := fold_hid hlt
                clear h1
                by_cases hn3 : pre.length < 3
                · have hn3i : (pre.length : Int) < 3 := by omega
                  have x13 : (V.alloc (.cells #[.int .i64 0] TInt)).cell? ⟨B13, 0, none⟩ = some (.func (.func fEach) #[] #[ptr B]) := by
                    have := (Below.refl V.heap.size V).alloc (Nat.le_refl _) (.cells #[.int .i64 0] TInt)
                    rw [World.cell?, this.block _ (blk_lt HXV.out.b13), HXV.out.b13]; rfl
                  gi_wp2_with fail
                  have HfA : Hid (FrI w.heap.size V (V.alloc (.cells #[.int .i64 0] TInt))) := FrI.bel ((Below.refl _ _).alloc (Nat.le_refl _) _) HXV.out.s.bel.size
                  have HXA := fold_hid (HXV.out.fri HfA.out)
                  have bA : Boxed (V.alloc (.cells #[.int .i64 0] TInt)) B14 TInt (.int .i64 (pre.length : Int)) := bV.alloc _
                  have bM : Boxed (V.alloc (.cells #[.int .i64 0] TInt)) V.heap.size TInt (.int .i64 0) := Boxed.new V _ _
                  have bXA : KBoxed (V.alloc (.cells #[.int .i64 0] TInt)) Bx xt xr := bXV.alloc _
                  have hrA : (V.alloc (.cells #[.int .i64 0] TInt)).heap[l]? = some (.loop rr) := (Below.heap_alloc V _ l (Array.getElem?_eq_some_iff.1 hrV).1).trans hrV
                  have HRA : Hid (KeepsFrom V1.heap.size W' (V.alloc (.cells #[.int .i64 0] TInt)) ∧ KBG B g W' (V.alloc (.cells #[.int .i64 0] TInt))) := ⟨HR.out.1.trans (HfA.out.others.from _), HR.out.2.trans (HXV.out.kfri HfA.out)⟩
                  have HB17 : Hid (w.heap.size ≤ V.heap.size ∧ B14 ≠ V.heap.size) := ⟨HXV.out.s.bel.size, by have := bV.lt; omega⟩
                  clear x13 cN c3 c4 c5 c7 k1 k2 HXV bV bXV hrV HR HfA
                  generalize V.alloc (.cells #[.int .i64 0] TInt) = VA at *
                  generalize V.heap.size = B17 at *
                  have HBA : Hid (B < VA.heap.size ∧ g < VA.heap.size) := ⟨blk_lt HXA.out.il.box, HXA.out.il.gl⟩
                  refine wpIn_rangeFunc_ownN (l₀ := l) (r₀ := rr) rfl hrA (by omega) (gf := fEach) (lb := #[ptr B]) rfl trivial (enters_of Try.func17 (by kernel_rfl) rfl)
                    ((each_stops Fence.wide 7 trivial rfl (by omega) B g N es HES.out HLen.out.2.symm (by omega) VA HXA.out.il).inRound l) KBG.trans (KBG.put HBA.out.1 HBA.out.2) (Below.refl _ _) (fun _ => rfl)
                    (fun pre' U => Chn es HES.out pre' ∧ FrI w.heap.size VA U ∧ Boxed U B14 TInt (.int .i64 (pre.length : Int)) ∧ Boxed U B17 TInt (.int .i64 (pre'.length : Int)))
                    (fun c pre' _ => c = .ret ∧ ¬ Chn es HES.out pre')
                    (OwnFrom.and (ownFrom_pure _ _) (OwnFrom.and (fun s X Y row hs hg hr => hs.own HXA.out.s.bel.size hg hr) (OwnFrom.and (Own.from (boxed_own _ _ _) _) (Own.from (boxed_own _ _ _) _))))
                    (fun c => ownFrom_pure _ _)
                    ⟨chn_nil es HES.out, FrI.refl _ _, bA, bM⟩
                    (fun y a'' U => ∃ By, KBoxed U By y.1.1.1 y.1.1.2 ∧ FX B3 B4 B5 B7 B13 B14 a'' ∧ a''.defers = [] ∧ a''.tmps.getD 15 undef = ptr Bx ∧ a''.tmps.getD 16 undef = .int .i64 xv ∧ a''.tmps.getD 17 undef = ptr B17 ∧ a''.tmps.getD 18 undef = ptr By ∧ a''.tmps.getD 19 undef = .int .i64 y.1.2)
                    (fun y a'' _ X Y row hs hg hr => by obtain ⟨By, e2, e3⟩ := hs; exact ⟨By, e2.own hg (fun r e => (hr r e).2), e3⟩)
                    ?assign2 ?body2 ?done2 ?stop2
                  case assign2 =>
                    rintro l2 pre' y U K ⟨hp', hF, n1, m1⟩ hK
                    have hfr : ∀ o, FrI w.heap.size U (U.alloc o) := fun o => FrI.bel ((Below.refl _ _).alloc (Nat.le_refl _) _) (HXA.out.fri hF).s.bel.size
                    gi_wp2
                    exact hK _ _ ((KeepsOthers.alloc _ _).from _) ((HXA.out.fri hF).kfri (hfr _)) ⟨hp', hF.trans (hfr _), n1.alloc _, m1.alloc _⟩ ⟨U.heap.size, KBoxed.new U _ _, ⟨rfl, rfl, rfl, rfl, rfl, rfl, rfl⟩, rfl, rfl, rfl, rfl, rfl, rfl⟩
                  case stop2 =>
                    rintro c pre' U ⟨j, hj, rfl⟩ ⟨_, hn⟩
                    exact absurd (chn_upto es HES.out j) hn
                  case body2 =>
                    rintro l2 pre' y ⟨tm, df⟩ U hl2 ⟨r2, hr2⟩ ⟨hp', hF, n1, m1⟩ ⟨By, bY, hFX, hdf, h15, h16, h17, h18, h19⟩ hlt2
                    obtain ⟨⟨⟨yt, yr⟩, yv⟩, hyk, hyv⟩ := y
                    have e1 := lit_eq tm hFX.sz
                    generalize hf' : (fun i => tm.getD i undef) = f at e1
                    have g3 : f 3 = ptr B3 := by rw [← hf']; exact hFX.t3
                    have g4 : f 4 = ptr B4 := by rw [← hf']; exact hFX.t4
                    have g5 : f 5 = ptr B5 := by rw [← hf']; exact hFX.t5
                    have g7 : f 7 = ptr B7 := by rw [← hf']; exact hFX.t7
                    have g13 : f 13 = ptr B13 := by rw [← hf']; exact hFX.t13
                    have g14 : f 14 = ptr B14 := by rw [← hf']; exact hFX.t14
                    have g15 : f 15 = ptr Bx := by rw [← hf']; exact h15
                    have g16 : f 16 = .int .i64 xv := by rw [← hf']; exact h16
                    have g17 : f 17 = ptr B17 := by rw [← hf']; exact h17
                    have g18 : f 18 = ptr By := by rw [← hf']; exact h18
                    have g19 : f 19 = .int .i64 yv := by rw [← hf']; exact h19
                    unfold lit at e1
                    rw [g3, g4, g5, g7, g13, g14, g15, g16, g17, g18, g19] at e1
                    simp only at hdf
                    subst e1 hdf
                    clear hf' g3 g4 g5 g7 g13 g14 g15 g16 g17 g18 g19 hFX
                    have hltE : pre'.length < es.length := by have h9 := HLen.out.2; omega
                    have HC0 : Hid (Chn es HES.out (pre' ++ [(⟨((yt, yr), yv), hyk, hyv⟩ : PX)]) ↔ (((yt, yr), yv) : K × Int) = (es[pre'.length].k, es[pre'.length].v)) := chn_snoc (x := (⟨((yt, yr), yv), hyk, hyv⟩ : PX)) hp' hltE
                    have hxU := HXA.out.fri hF
                    obtain ⟨gq', oq', hwo, y0, y1, y2⟩ := hxU.want HQ.out.1 pre'.length hltE
                    cases hwo
                    have cM := m1.cell
                    have fM := m1.frozen
                    obtain ⟨c3, c4, c5, c7⟩ := hxU.s.cells
                    have k1 := bY.cell.1
                    have k2 := bY.cell.2
                    simp only at k1 k2
                    have f4 := frozen_of_row U B4 0 _ _ hxU.s.b4
                    have e1 : decide ((N : Int) ≤ (pre'.length : Int)) = false := by simp; omega
                    have e2 : decide (N ≤ pre'.length) = false := by simp; omega
                    have HXU := fold_hid hxU
                    have HFU := fold_hid hF
                    clear hxU hF
                    by_cases hz : (yt, yr) = es[pre'.length].k
                    · rw [← hz] at y0 y1
                      simp only at y0 y1
                      have hq := run_neKey yt yr yt yr
                      simp only [decide_true, Bool.not_true] at hq
                      have hgd := fun op x y => run_eqGuard op x y yt yr yt yr
                      by_cases hv : yv = es[pre'.length].v
                      · have HC2 : Hid (Chn es HES.out (pre' ++ [(⟨((yt, yr), yv), hyk, hyv⟩ : PX)])) := HC0.out.2 (by rw [hz, hv])
                        rw [← hv] at y2
                        clear hz hv HC0
                        gi_wp2_with fail
                        refine region_round (F := Fence.wide) (l := l2) rfl (by kernel_rfl) (by kernel_rfl) (by kernel_rfl) ?_
                        repeat (gi_big_quiet_step (fail))
                        refine wpQuietIn_nil ?_
                        intro _ hw'
                        obtain ⟨nq2, hw''⟩ := hw'
                        subst hw''
                        have m2 : Boxed (U.drewN nq2) B17 TInt (.int .i64 (pre'.length : Int)) := m1
                        have n2 : Boxed (U.drewN nq2) B14 TInt (.int .i64 (pre.length : Int)) := n1
                        have HG : Hid (FrI w.heap.size U ((U.drewN nq2).setCell ⟨B17, 0, none⟩ (.int .i64 ((pre'.length : Int) + 1)))) := (FrI.drewN w.heap.size U nq2).trans (FrI.set (base := w.heap.size) m2 HB17.out.1 _)
                        have n3 := n2.other HB17.out.2 (.int .i64 ((pre'.length : Int) + 1))
                        have m3 : Boxed ((U.drewN nq2).setCell ⟨B17, 0, none⟩ (.int .i64 ((pre'.length : Int) + 1))) B17 TInt (.int .i64 ((pre' ++ [(⟨((yt, yr), yv), hyk, hyv⟩ : PX)]).length : Int)) := by
                          rw [List.length_append, List.length_singleton]
                          push_cast
                          exact m2.set _
                        gi_wp2_with fail
                        exact ⟨HG.out.others.from _, HXU.out.kfri HG.out, HC2.out, HFU.out.trans HG.out, n3, m3⟩
                      · have HC2 : Hid (¬ Chn es HES.out (pre' ++ [(⟨((yt, yr), yv), hyk, hyv⟩ : PX)])) := fun h => hv (by have := HC0.out.1 h; simp at this; exact this.2)
                        have hv' : (yv != es[pre'.length].v) = true := by simp; exact hv
                        generalize es[pre'.length].v = xv' at *
                        clear hz hv HC0
                        gi_wp2_with fail
                        refine region_round (F := Fence.wide) (l := l2) rfl (by kernel_rfl) (by kernel_rfl) (by kernel_rfl) ?_
                        repeat (gi_big_quiet_step (fail))
                        refine wpQuietIn_nil ?_
                        intro _ hw'
                        obtain ⟨nq2, hw''⟩ := hw'
                        subst hw''
                        gi_wp2_with fail
                        exact ⟨((keeps_drewN U nq2).trans (KeepsOthers.setCell _ _ _)).from _, rfl, HC2.out⟩
                    · have HC2 : Hid (¬ Chn es HES.out (pre' ++ [(⟨((yt, yr), yv), hyk, hyv⟩ : PX)])) := fun h => hz (by have := HC0.out.1 h; simp at this; rw [← this.1])
                      generalize es[pre'.length].k = z at *
                      obtain ⟨z1, z2⟩ := z
                      simp only at y0 y1
                      have hq := run_neKey yt yr z1 z2
                      rw [decide_eq_false hz, Bool.not_false] at hq
                      have hgd := fun op x y => run_eqGuard op x y yt yr z1 z2
                      clear hz HC0
                      gi_wp2_with fail
                      refine region_round (F := Fence.wide) (l := l2) rfl (by kernel_rfl) (by kernel_rfl) (by kernel_rfl) ?_
                      repeat (gi_big_quiet_step (fail))
                      refine wpQuietIn_nil ?_
                      intro _ hw'
                      obtain ⟨nq2, hw''⟩ := hw'
                      subst hw''
                      gi_wp2_with fail
                      exact ⟨((keeps_drewN U nq2).trans (KeepsOthers.setCell _ _ _)).from _, rfl, HC2.out⟩
                  case done2 =>
                    rintro ys U rfl ⟨hp', hF, n1, m1⟩
                    rw [upto_length] at m1
                    have HXU := fold_hid (HXA.out.fri hF)
                    have HRU : Hid (KeepsFrom V1.heap.size W' U ∧ KBG B g W' U) := ⟨HRA.out.1.trans (hF.others.from _), HRA.out.2.trans (HXA.out.kfri hF)⟩
                    have bXU : KBoxed U Bx xt xr := hF.oth _ _ bXA (fun _ e => by simp only [Obj.cells.injEq] at e; exact absurd e.2.1 (by decide))
                    clear hF HXA HRA bXA hrA bA bM hp'
                    have cN := n1.cell
                    have cM := m1.cell
                    obtain ⟨c3, c4, c5, c7⟩ := HXU.out.s.cells
                    have k1 := bXU.cell.1
                    have k2 := bXU.cell.2
                    have HTk := fold_hid (wtakeN_any U w.heap.size D M Ld es1 (xt, xr) HXU.out.s.wd hxk (by omega))
                    gi_wp2_with fail
                    refine ⟨trivial, (CallsIn.inRound l (callsIn_wide.2 HTk.out)).mono ?_⟩
                    rintro e V2 ⟨⟨ta, tb, rfl⟩, hfk, hnc, es2, hwd, hle2⟩
                    have HX2 := fold_hid (HXU.out.dict hfk hwd)
                    have b2 : Boxed V2 B14 TInt (.int .i64 (pre.length : Int)) := hfk.boxed n1 (by decide) (by decide)
                    have HR2 : Hid (KeepsFrom V1.heap.size W' V2 ∧ KBG B g W' V2) := ⟨HRU.out.1.trans (hnc.from hfk.size HVc.out.2.1), HRU.out.2.trans HX2.out.2⟩
                    have hb2 : es2.length ≤ bnd pre.length := Nat.le_trans hle2 HH1.out
                    clear hfk hnc hwd hle2 HTk cN cM c3 c4 c5 c7 k1 k2 HXU n1 m1 bXU HRU HH1 hb4
                    have cN := b2.cell
                    obtain ⟨c3, c4, c5, c7⟩ := HX2.out.1.s.cells
                    have HXx := fold_hid HX2.out.1
                    clear HX2
                    gi_wp2_with fail
                    gi_loopw [20] (fun i wr => ∃ (j : Nat) (es3 : List En), j ≤ m ∧ i = .int .i64 (j : Int) ∧ es3.length ≤ es2.length + j ∧ Hid (WX w wr D M Ld B3 B4 B5 B7 B13 B g es es3 ws (.slice mo m mcap) (.slice (some ⟨gq, oq, none⟩) N wc)) ∧ Hid (Boxed wr B14 TInt (.int .i64 (pre.length : Int))) ∧ Hid (KeepsFrom V1.heap.size W' wr ∧ KBG B g W' wr)) (fun i _ => m - (intOf i).toNat)
                    case atStart => exact ⟨0, es2, Nat.zero_le _, rfl, by omega, HXx, b2, HR2⟩
                    case round =>
                      obtain ⟨j, es3, hj, rfl, hl3, HX3, B3x, HR3⟩ := hrel
                      clear cN c3 c4 c5 c7 HXx b2 HR2
                      have hb3 := bnd_le pre.length
                      have cN := B3x.out.cell
                      have fN := B3x.out.frozen
                      obtain ⟨c3, c4, c5, c7⟩ := HX3.out.s.cells
                      by_cases hjm : j < m
                      · have hji : (j : Int) < (m : Int) := by omega
                        have hjl : j < Mk.length := by have := HMn.out.1; omega
                        obtain ⟨b, off, hmo, y0, y1⟩ : ∃ b off, mo = some ⟨b, off, none⟩ ∧ wr.cell? ⟨b, off + j * 2, none⟩ = some (.int .i64 (kd Mk j).1) ∧ wr.cell? ⟨b, off + j * 2 + 1, none⟩ = some (.int .i64 (kd Mk j).2) := by
                          rcases HMk.out wr HX3.out.s.bel with h0 | ⟨b, off, e, hc⟩
                          · rw [h0] at hjl; simp at hjl
                          · exact ⟨b, off, e, (KeysAt.at hc j hjl).1, (KeysAt.at hc j hjl).2⟩
                        have HK : Hid (KIn (kd Mk j)) := HMn.out.2 _ (kd_mem hjl)
                        generalize kd Mk j = z at *
                        obtain ⟨z1, z2⟩ := z
                        simp only at y0 y1
                        have HPt : Hid (Calls Try.prog 5 #[ptr D, .agg #[.int .i64 z1, .int .i64 z2], .int .i64 (-1 - (j : Int))] wr.drew fun e w' => (∃ a b, e = .returned (.tuple #[.int .i64 a, .bool b])) ∧ FrK w.heap.size wr.drew w' ∧ NcM M wr.drew w' ∧ ∃ es', WD w' w.heap.size D M Ld es' ∧ es'.length ≤ es3.length + 1) :=
                          wputN_any wr.drew w.heap.size D M Ld es3 (z1, z2) (-1 - (j : Int)) (HX3.out.fri (FrI.drewN w.heap.size wr 1)).s.wd HK.out (by unfold In64; omega) (by omega)
                        have HWj : Hid (IntKind.i64.wrap (-1 - (j : Int)) = -1 - (j : Int)) := by
                          rw [Hid]
                          simp [IntKind.wrap, IntKind.bits, IntKind.signed]
                          omega
                        have HXd := fold_hid (HX3.out.fri (FrI.drewN w.heap.size wr 1))
                        have HRd : Hid (KeepsFrom V1.heap.size W' wr.drew ∧ KBG B g W' wr.drew) := ⟨HR3.out.1.trans ((keeps_drewN wr 1).from _), HR3.out.2.trans (HX3.out.kfri (FrI.drewN w.heap.size wr 1))⟩
                        have Bd : Hid (Boxed wr.drew B14 TInt (.int .i64 (pre.length : Int))) := B3x.out
                        have hmo' : mo = some ⟨b, off, none⟩ := hmo
                        rw [hmo'] at c3
                        have HMo := fold_hid hmo'
                        clear hmo hmo' HX3 HR3 B3x
                        gi_wp2_with fail
                        refine wpIn_region_any (by kernel_rfl) (wpAny_round (F := Fence.wide) (l := l) rfl (by kernel_rfl) _ _ _ _ ?_)
                        change wpAnyIn _ _ _ _ _ _ _ _ _ (World.drew _)
                        have q3 : wr.drew.cell? ⟨B3, 0, none⟩ = some (.slice (some ⟨b, off, none⟩) m mcap) := c3
                        have q5 : wr.drew.cell? ⟨B5, 0, none⟩ = some (ptr D) := c5
                        have q0 : wr.drew.cell? ⟨b, off + j * 2, none⟩ = some (.int .i64 z1) := y0
                        have q1 : wr.drew.cell? ⟨b, off + j * 2 + 1, none⟩ = some (.int .i64 z2) := y1
                        refine wpAnyIn_take (i := 2) (v := .int .i64 (j : Int)) rfl rfl (by kernel_rfl) (by kernel_rfl) (by kernel_rfl) (fun _ _ _ h => h) ⟨.inl ⟨by rfl, by intro w; go_simp⟩, fun w => rfl⟩ ?_
                        refine wpAnyIn_take (i := 5) (v := .int .i64 (j : Int)) rfl rfl (by kernel_rfl) (by kernel_rfl) (by kernel_rfl) (fun _ _ _ h => h) ⟨.inl ⟨by rfl, by intro w; go_simp⟩, fun w => rfl⟩ ?_
                        refine wpAnyIn_take (i := 6) (v := .int .i64 (-1 - (j : Int))) rfl rfl (by kernel_rfl) (by kernel_rfl) (by kernel_rfl) (fun _ _ _ h => h) ⟨.inl ⟨by rfl, by intro w; go_simp ; exact HWj.out⟩, fun w => rfl⟩ ?_
                        refine wpAnyIn_ready (rs := [0, 1]) (by kernel_rfl) (by simp) ?_
                        refine AllReadyIn.cons rfl (fun K hK => ?_) (AllReadyIn.cons rfl (fun K hK => ?_) (AllReadyIn.nil))
                        · go_simp
                          refine hK _ _ ?_
                          clear hK K
                          refine wpAnyIn_ready (rs := [1]) (by kernel_rfl) (by simp) ?_
                          refine AllReadyIn.cons rfl (fun K hK => ?_) (AllReadyIn.nil)
                          go_simp
                          refine hK _ _ ?_
                          clear hK K
                          refine wpAnyIn_take (i := 3) (v := .pointer (some ⟨b, off + j * 2, none⟩)) rfl rfl (by kernel_rfl) (by kernel_rfl) (by kernel_rfl) (fun _ _ _ h => h) ⟨.inl ⟨by rfl, by intro w; go_simp⟩, fun w => rfl⟩ ?_
                          refine wpAnyIn_ready (rs := [4]) (by kernel_rfl) (by simp) ?_
                          refine AllReadyIn.cons rfl (fun K hK => ?_) (AllReadyIn.nil)
                          go_simp
                          refine hK _ _ ?_
                          clear hK K
                          refine wpAnyIn_ready (rs := [7]) (by kernel_rfl) (by simp) ?_
                          refine AllReadyIn.cons rfl (fun K hK => ?_) (AllReadyIn.nil)
                          go_simp
                          refine ⟨trivial, (callsIn_wide.2 HPt.out).mono ?_⟩
                          rintro e V3 ⟨⟨ta3, tb3, rfl⟩, hfk3, hnc3, es4, hwd4, hle4⟩
                          have hd4 := HXd.out.dict hfk3 hwd4
                          have HX4 := fold_hid hd4.1
                          have B4x := fold_hid (hfk3.boxed Bd.out (by decide) (by decide))
                          have HR4 : Hid (KeepsFrom V1.heap.size W' V3 ∧ KBG B g W' V3) := ⟨HRd.out.1.trans (hnc3.from hfk3.size HVc.out.2.1), HRd.out.2.trans hd4.2⟩
                          have hl4 : es4.length ≤ es2.length + (j + 1) := by omega
                          clear hfk3 hnc3 hwd4 hle4 hd4 HPt HXd HRd Bd q0 q1 q3 q5 c3 c4 c5 c7 cN fN y0 y1
                          refine hK _ _ ?_
                          clear hK K
                          refine wpAnyIn_done (by kernel_rfl) ?_ _
                          gi_wp2_with fail
                          go_roundw
                          case rel => exact ⟨j + 1, es4, by omega, by go_num, hl4, HX4, B4x, HR4⟩
                          case measure => simp [intOf]; omega
                        · go_simp
                          refine hK _ _ ?_
                          clear hK K
                          refine wpAnyIn_take (i := 3) (v := .pointer (some ⟨b, off + j * 2, none⟩)) rfl rfl (by kernel_rfl) (by kernel_rfl) (by kernel_rfl) (fun _ _ _ h => h) ⟨.inl ⟨by rfl, by intro w; go_simp⟩, fun w => rfl⟩ ?_
                          refine wpAnyIn_ready (rs := [0, 4]) (by kernel_rfl) (by simp) ?_
                          refine AllReadyIn.cons rfl (fun K hK => ?_) (AllReadyIn.cons rfl (fun K hK => ?_) (AllReadyIn.nil))
                          · go_simp
                            refine hK _ _ ?_
                            clear hK K
                            refine wpAnyIn_ready (rs := [4]) (by kernel_rfl) (by simp) ?_
                            refine AllReadyIn.cons rfl (fun K hK => ?_) (AllReadyIn.nil)
                            go_simp
                            refine hK _ _ ?_
                            clear hK K
                            refine wpAnyIn_ready (rs := [7]) (by kernel_rfl) (by simp) ?_
                            refine AllReadyIn.cons rfl (fun K hK => ?_) (AllReadyIn.nil)
                            go_simp
                            refine ⟨trivial, (callsIn_wide.2 HPt.out).mono ?_⟩
                            rintro e V3 ⟨⟨ta3, tb3, rfl⟩, hfk3, hnc3, es4, hwd4, hle4⟩
                            have hd4 := HXd.out.dict hfk3 hwd4
                            have HX4 := fold_hid hd4.1
                            have B4x := fold_hid (hfk3.boxed Bd.out (by decide) (by decide))
                            have HR4 : Hid (KeepsFrom V1.heap.size W' V3 ∧ KBG B g W' V3) := ⟨HRd.out.1.trans (hnc3.from hfk3.size HVc.out.2.1), HRd.out.2.trans hd4.2⟩
                            have hl4 : es4.length ≤ es2.length + (j + 1) := by omega
                            clear hfk3 hnc3 hwd4 hle4 hd4 HPt HXd HRd Bd q0 q1 q3 q5 c3 c4 c5 c7 cN fN y0 y1
                            refine hK _ _ ?_
                            clear hK K
                            refine wpAnyIn_done (by kernel_rfl) ?_ _
                            gi_wp2_with fail
                            go_roundw
                            case rel => exact ⟨j + 1, es4, by omega, by go_num, hl4, HX4, B4x, HR4⟩
                            case measure => simp [intOf]; omega
                          · go_simp
                            refine hK _ _ ?_
                            clear hK K
                            refine wpAnyIn_ready (rs := [0]) (by kernel_rfl) (by simp) ?_
                            refine AllReadyIn.cons rfl (fun K hK => ?_) (AllReadyIn.nil)
                            go_simp
                            refine hK _ _ ?_
                            clear hK K
                            refine wpAnyIn_ready (rs := [7]) (by kernel_rfl) (by simp) ?_
                            refine AllReadyIn.cons rfl (fun K hK => ?_) (AllReadyIn.nil)
                            go_simp
                            refine ⟨trivial, (callsIn_wide.2 HPt.out).mono ?_⟩
                            rintro e V3 ⟨⟨ta3, tb3, rfl⟩, hfk3, hnc3, es4, hwd4, hle4⟩
                            have hd4 := HXd.out.dict hfk3 hwd4
                            have HX4 := fold_hid hd4.1
                            have B4x := fold_hid (hfk3.boxed Bd.out (by decide) (by decide))
                            have HR4 : Hid (KeepsFrom V1.heap.size W' V3 ∧ KBG B g W' V3) := ⟨HRd.out.1.trans (hnc3.from hfk3.size HVc.out.2.1), HRd.out.2.trans hd4.2⟩
                            have hl4 : es4.length ≤ es2.length + (j + 1) := by omega
                            clear hfk3 hnc3 hwd4 hle4 hd4 HPt HXd HRd Bd q0 q1 q3 q5 c3 c4 c5 c7 cN fN y0 y1
                            refine hK _ _ ?_
                            clear hK K
                            refine wpAnyIn_done (by kernel_rfl) ?_ _
                            gi_wp2_with fail
                            go_roundw
                            case rel => exact ⟨j + 1, es4, by omega, by go_num, hl4, HX4, B4x, HR4⟩
                            case measure => simp [intOf]; omega
                      · have hji : ¬ (j : Int) < (m : Int) := by omega
                        have HE := fold_hid (FrI.set (base := w.heap.size) B3x.out HVc.out.2.2 (.int .i64 ((pre.length : Int) + 1)))
                        have b3 := B3x.out.set (.int .i64 ((pre.length : Int) + 1))
                        have HE2 : Hid (KeepsFrom V1.heap.size W' (wr.setCell ⟨B14, 0, none⟩ (.int .i64 ((pre.length : Int) + 1))) ∧ KBG B g W' (wr.setCell ⟨B14, 0, none⟩ (.int .i64 ((pre.length : Int) + 1))) ∧ (∃ es1 : List En, es1.length ≤ bnd (pre ++ [(⟨((xt, xr), xv), hxk, hxv⟩ : PX)]).length ∧ WX w (wr.setCell ⟨B14, 0, none⟩ (.int .i64 ((pre.length : Int) + 1))) D M Ld B3 B4 B5 B7 B13 B g es es1 ws (.slice mo m mcap) (.slice (some ⟨gq, oq, none⟩) N wc)) ∧ Boxed (wr.setCell ⟨B14, 0, none⟩ (.int .i64 ((pre.length : Int) + 1))) B14 TInt (.int .i64 ((pre ++ [(⟨((xt, xr), xv), hxk, hxv⟩ : PX)]).length : Int))) := by
                          refine ⟨HR3.out.1.trans (HE.out.others.from _), HR3.out.2.trans (HX3.out.kfri HE.out), ⟨es3, ?_, HX3.out.fri HE.out⟩, ?_⟩
                          · rw [List.length_append, List.length_singleton]; have := bnd_step hn3; omega
                          · rw [List.length_append, List.length_singleton]
                            push_cast
                            exact b3
                        gi_wp2_with fail
                        exact ⟨HE2.out.1, HE2.out.2.1, HC.out, HE2.out.2.2.1, HE2.out.2.2.2⟩
                · have hn3i : ¬ (pre.length : Int) < 3 := by omega
                  have HTk := fold_hid (wtakeN_any V w.heap.size D M Ld es1 (xt, xr) HXV.out.s.wd hxk (by omega))
                  gi_wp2_with fail
                  refine ⟨trivial, (CallsIn.inRound l (callsIn_wide.2 HTk.out)).mono ?_⟩
                  rintro e V2 ⟨⟨ta, tb, rfl⟩, hfk, hnc, es2, hwd, hle2⟩
                  have HX2 := fold_hid (HXV.out.dict hfk hwd)
                  have b2 : Boxed V2 B14 TInt (.int .i64 (pre.length : Int)) := hfk.boxed bV (by decide) (by decide)
                  have HR2 : Hid (KeepsFrom V1.heap.size W' V2 ∧ KBG B g W' V2) := ⟨HR.out.1.trans (hnc.from hfk.size HVc.out.2.1), HR.out.2.trans HX2.out.2⟩
                  have hb2 : es2.length ≤ bnd pre.length := Nat.le_trans hle2 HH1.out
                  clear hfk hnc hwd hle2 HTk cN c3 c4 c5 c7 k1 k2 HXV bV bXV hrV HR HH1 hb4
                  have cN := b2.cell
                  have fN := b2.frozen
                  obtain ⟨c3, c4, c5, c7⟩ := HX2.out.1.s.cells
                  gi_wp2_with fail
                  gi_loopw [20] (fun i wr => i = .int .i64 0 ∧ wr = V2) (fun _ _ => 0)
                  case atStart => exact ⟨rfl, rfl⟩
                  case round =>
                    obtain ⟨rfl, rfl⟩ := hrel
                    have HE := fold_hid (FrI.set (base := w.heap.size) b2 HVc.out.2.2 (.int .i64 ((pre.length : Int) + 1)))
                    have b3 := b2.set (.int .i64 ((pre.length : Int) + 1))
                    have HE2 : Hid (KeepsFrom V1.heap.size W' (wr.setCell ⟨B14, 0, none⟩ (.int .i64 ((pre.length : Int) + 1))) ∧ KBG B g W' (wr.setCell ⟨B14, 0, none⟩ (.int .i64 ((pre.length : Int) + 1))) ∧ (∃ es1 : List En, es1.length ≤ bnd (pre ++ [(⟨((xt, xr), xv), hxk, hxv⟩ : PX)]).length ∧ WX w (wr.setCell ⟨B14, 0, none⟩ (.int .i64 ((pre.length : Int) + 1))) D M Ld B3 B4 B5 B7 B13 B g es es1 ws (.slice mo m mcap) (.slice (some ⟨gq, oq, none⟩) N wc)) ∧ Boxed (wr.setCell ⟨B14, 0, none⟩ (.int .i64 ((pre.length : Int) + 1))) B14 TInt (.int .i64 ((pre ++ [(⟨((xt, xr), xv), hxk, hxv⟩ : PX)]).length : Int))) := by
                      refine ⟨HR2.out.1.trans (HE.out.others.from _), HR2.out.2.trans (HX2.out.1.kfri HE.out), ⟨es2, ?_, HX2.out.1.fri HE.out⟩, ?_⟩
                      · rw [List.length_append, List.length_singleton]; exact Nat.le_trans hb2 (bnd_mono _)
                      · rw [List.length_append, List.length_singleton]
                        push_cast
                        exact b3
                    by_cases hm0 : m = 0
                    · have hmi : ¬ (0 : Int) < (m : Int) := by omega
                      clear hm0
                      gi_wp2_with fail
                      exact ⟨HE2.out.1, HE2.out.2.1, HC.out, HE2.out.2.2.1, HE2.out.2.2.2⟩
                    · have hmi : (0 : Int) < (m : Int) := by omega
                      clear hm0
                      gi_wp2_with fail
                      exact ⟨HE2.out.1, HE2.out.2.1, HC.out, HE2.out.2.2.1, HE2.out.2.2.2⟩
              · have HC : Hid (¬ Chn es HES.out (pre ++ [(⟨((xt, xr), xv), hxk, hxv⟩ : PX)])) := fun h => hv (by have := HC0.out.1 h; simp at this; exact this.2)
                have hv' : (xv != es[pre.length].v) = true := by simp; exact hv
                generalize es[pre.length].v = xv' at *
                clear hz hv HC0
                gi_wp2_with fail
                refine region_round (F := Fence.wide) (l := l) rfl (by kernel_rfl) (by kernel_rfl) (by kernel_rfl) ?_
                repeat (gi_big_quiet_step (fail))
                refine wpQuietIn_nil ?_
                intro _ hw'
                obtain ⟨nq, hw''⟩ := hw'
                subst hw''
                gi_wp2_with fail
                exact ⟨((keeps_drewN W' nq).trans (KeepsOthers.setCell _ _ _)).from _, rfl, HC.out⟩
            · have HC : Hid (¬ Chn es HES.out (pre ++ [(⟨((xt, xr), xv), hxk, hxv⟩ : PX)])) := fun h => hz (by have := HC0.out.1 h; simp at this; rw [← this.1])
              generalize es[pre.length].k = z at *
              obtain ⟨z1, z2⟩ := z
              simp only at y0 y1
              have hq := run_neKey xt xr z1 z2
              rw [decide_eq_false hz, Bool.not_false] at hq
              have hgd := fun op x y => run_eqGuard op x y xt xr z1 z2
              clear hz HC0
              gi_wp2_with fail
              refine region_round (F := Fence.wide) (l := l) rfl (by kernel_rfl) (by kernel_rfl) (by kernel_rfl) ?_
              repeat (gi_big_quiet_step (fail))
              refine wpQuietIn_nil ?_
              intro _ hw'
              obtain ⟨nq, hw''⟩ := hw'
              subst hw''
              gi_wp2_with fail
              exact ⟨((keeps_drewN W' nq).trans (KeepsOthers.setCell _ _ _)).from _, rfl, HC.out⟩
        case rest =>
          rintro D1 W2 hD1 ⟨⟨es1, hes1, hx1⟩, b2⟩ hK1
          have HX2 := fold_hid hx1
          have HK1 := fold_hid (And.intro hD1 hK1)
          have cN := b2.cell
          obtain ⟨c3, c4, c5, c7⟩ := hx1.s.cells
          have hNN : ((N : Int) != (N : Int)) = false := by simp
          have HCl := fold_hid (wclearN_any W2 w.heap.size D M Ld es1 hx1.s.wd)
          have hMD : D1 ≠ M := fun e => by
            obtain ⟨_, _, hm, _⟩ := hx1.s.wd.da.mp
            rw [← e, hK1] at hm; cases hm
          clear hx1 hes1 hK1 hD1 bN hlt1 HX1 HB1
          go_wp2_with fail
          refine HCl.out.mono ?_
          rintro e W3 ⟨⟨rv, rfl⟩, hfk, hnc, hwd⟩
          have HX3 := fold_hid (HX2.out.dict hfk hwd).1
          have b3 : Boxed W3 B14 TInt (.int .i64 (N : Int)) := hfk.boxed b2 (by decide) (by decide)
          have HK3 : Hid (V1.heap.size ≤ D1 ∧ W3.heap[D1]? = some (.deferred (some []))) := ⟨HK1.out.1, hnc _ _ HK1.out.2 rfl hMD⟩
          clear hfk hnc hwd HX2 b2 HK1 cN c3 c4 c5 c7 HCl hMD
          have cN := b3.cell
          have fN := b3.frozen
          have HF4 := fold_hid (FrI.set (base := w.heap.size) b3 HVc.out.2.2 (.int .i64 0))
          have HX4 := fold_hid (HX3.out.fri HF4.out)
          have b4 := b3.set (.int .i64 0)
          have HK4 : Hid (V1.heap.size ≤ D1 ∧ (W3.setCell ⟨B14, 0, none⟩ (.int .i64 0)).heap[D1]? = some (.deferred (some []))) := ⟨HK3.out.1, HF4.out.others.same _ _ HK3.out.2 rfl⟩
          have x13 : (W3.setCell ⟨B14, 0, none⟩ (.int .i64 0)).cell? ⟨B13, 0, none⟩ = some (.func (.func fEach) #[] #[ptr B]) := by rw [World.cell?, HX4.out.b13]; rfl
          go_wp2_with fail
          clear HX3 b3 HK3 cN fN HF4 x13
          generalize W3.setCell ⟨B14, 0, none⟩ (.int .i64 0) = V4 at *
          refine wp_gen (fun a' => FX B3 B4 B5 B7 B13 B14 a' ∧ a'.defers = [mk D1] ∧ a'.tmps.getD 202 undef = .func (.func fEach) #[] #[ptr B]) ⟨⟨rfl, rfl, rfl, rfl, rfl, rfl, rfl⟩, rfl, rfl⟩ ?_
          clear h115 f
          rintro ⟨tm, df⟩ ⟨hFX, hdf, h202⟩
          have e1 := lit_eq tm hFX.sz
          generalize hf' : (fun i => tm.getD i undef) = f at e1
          have g3 : f 3 = ptr B3 := by rw [← hf']; exact hFX.t3
          have g4 : f 4 = ptr B4 := by rw [← hf']; exact hFX.t4
          have g5 : f 5 = ptr B5 := by rw [← hf']; exact hFX.t5
          have g7 : f 7 = ptr B7 := by rw [← hf']; exact hFX.t7
          have g13 : f 13 = ptr B13 := by rw [← hf']; exact hFX.t13
          have g14 : f 14 = ptr B14 := by rw [← hf']; exact hFX.t14
          have g202 : f 202 = .func (.func fEach) #[] #[ptr B] := by rw [← hf']; exact h202
          unfold lit at e1
          rw [g3, g4, g5, g7, g13, g14, g202] at e1
          simp only at hdf
          subst e1 hdf
          clear hf' g3 g4 g5 g7 g13 g14 g202 hFX
          have hlt4 := b4.lt
          have HB4 : Hid (B < V4.heap.size ∧ g < V4.heap.size) := ⟨blk_lt HX4.out.il.box, HX4.out.il.gl⟩
          have HVw : Hid (w.heap.size ≤ V4.heap.size) := HX4.out.s.bel.size
          refine (wpIn_wide (n := 10)).1 ?_
          refine loop_cut0 (fun W' => FrI w.heap.size V4 W' ∧ Boxed W' B14 TInt (.int .i64 (N : Int))) ?loop2 ?rest2
          case loop2 =>
            refine wpIn_rangeFunc_ownH rfl (by omega) (gf := fEach) (lb := #[ptr B]) rfl trivial (enters_of Try.func17 (by kernel_rfl) rfl)
              (each_stops Fence.wide 9 trivial rfl (by omega) B g N es HES.out HLen.out.2.symm (by omega) V4 HX4.out.il) KBG.trans (KBG.put HB4.out.1 HB4.out.2) (Below.refl _ _) (fun _ => rfl)
              (fun pre W' => Chn es HES.out pre ∧ FrI w.heap.size V4 W' ∧ Boxed W' B14 TInt (.int .i64 (pre.length : Int)))
              (fun c pre _ => c = .ret ∧ ¬ Chn es HES.out pre)
              (OwnFrom.and (ownFrom_pure _ _) (OwnFrom.and (fun s X Y row hs hg hr => hs.own HVw.out hg hr) (Own.from (boxed_own _ _ _) _)))
              (fun c => ownFrom_pure _ _)
              ⟨chn_nil es HES.out, FrI.refl _ _, b4⟩
              (fun x a' W' => ∃ Bx, KBoxed W' Bx x.1.1.1 x.1.1.2 ∧ FX B3 B4 B5 B7 B13 B14 a' ∧ a'.defers = [] ∧ a'.tmps.getD 21 undef = ptr Bx ∧ a'.tmps.getD 22 undef = .int .i64 x.1.2)
              (fun x a' _ X Y row hs hg hr => by obtain ⟨Bx, e2, e3⟩ := hs; exact ⟨Bx, e2.own hg (fun r e => (hr r e).2), e3⟩)
              ?assign3 ?body3 ?done3 ?stop3
            case assign3 =>
              rintro l pre x W' K ⟨hp, hF, b1⟩ hK
              have hfr : ∀ o, FrI w.heap.size W' (W'.alloc o) := fun o => FrI.bel ((Below.refl _ _).alloc (Nat.le_refl _) _) (HX4.out.fri hF).s.bel.size
              gi_wp2
              exact hK _ _ ((KeepsOthers.alloc _ _).from _) ((HX4.out.fri hF).kfri (hfr _)) ⟨hp, hF.trans (hfr _), b1.alloc _⟩ ⟨W'.heap.size, KBoxed.new W' _ _, ⟨rfl, rfl, rfl, rfl, rfl, rfl, rfl⟩, rfl, rfl, rfl⟩
            case done3 =>
              rintro D' ys W' hD rfl ⟨hp, hF, b1⟩ hK
              rw [upto_length] at b1
              exact ⟨rfl, D', hD, rfl, ⟨hF, b1⟩, hK⟩
            case stop3 =>
              rintro D' c pre W' hD ⟨j, hj, rfl⟩ ⟨_, hn⟩ hK
              exact absurd (chn_upto es HES.out j) hn
            case body3 =>
              rintro l2 pre' y ⟨tm, df⟩ U hl2 ⟨r2, hr2⟩ ⟨hp', hF, m1⟩ ⟨By, bY, hFX, hdf, h21, h22⟩ hlt2
              obtain ⟨⟨⟨yt, yr⟩, yv⟩, hyk, hyv⟩ := y
              have e1 := lit_eq tm hFX.sz
              generalize hf' : (fun i => tm.getD i undef) = f at e1
              have g3 : f 3 = ptr B3 := by rw [← hf']; exact hFX.t3
              have g4 : f 4 = ptr B4 := by rw [← hf']; exact hFX.t4
              have g5 : f 5 = ptr B5 := by rw [← hf']; exact hFX.t5
              have g7 : f 7 = ptr B7 := by rw [← hf']; exact hFX.t7
              have g13 : f 13 = ptr B13 := by rw [← hf']; exact hFX.t13
              have g14 : f 14 = ptr B14 := by rw [← hf']; exact hFX.t14
              have g21 : f 21 = ptr By := by rw [← hf']; exact h21
              have g22 : f 22 = .int .i64 yv := by rw [← hf']; exact h22
              unfold lit at e1
              rw [g3, g4, g5, g7, g13, g14, g21, g22] at e1
              simp only at hdf
              subst e1 hdf
              clear hf' g3 g4 g5 g7 g13 g14 g21 g22 hFX
              have hltE : pre'.length < es.length := by have h9 := HLen.out.2; omega
              have HC0 : Hid (Chn es HES.out (pre' ++ [(⟨((yt, yr), yv), hyk, hyv⟩ : PX)]) ↔ (((yt, yr), yv) : K × Int) = (es[pre'.length].k, es[pre'.length].v)) := chn_snoc (x := (⟨((yt, yr), yv), hyk, hyv⟩ : PX)) hp' hltE
              have hxU := HX4.out.fri hF
              obtain ⟨gq', oq', hwo, y0, y1, y2⟩ := hxU.want HQ.out.1 pre'.length hltE
              subst hwo
              have cM := m1.cell
              have fM := m1.frozen
              obtain ⟨c3, c4, c5, c7⟩ := hxU.s.cells
              have k1 := bY.cell.1
              have k2 := bY.cell.2
              simp only at k1 k2
              have f4 := frozen_of_row U B4 0 _ _ hxU.s.b4
              have e1 : decide ((N : Int) ≤ (pre'.length : Int)) = false := by simp; omega
              have e2 : decide (N ≤ pre'.length) = false := by simp; omega
              have HXU := fold_hid hxU
              have HFU := fold_hid hF
              clear hxU hF
              by_cases hz : (yt, yr) = es[pre'.length].k
              · rw [← hz] at y0 y1
                simp only at y0 y1
                have hq := run_neKey yt yr yt yr
                simp only [decide_true, Bool.not_true] at hq
                have hgd := fun op x y => run_eqGuard op x y yt yr yt yr
                by_cases hv : yv = es[pre'.length].v
                · have HC2 : Hid (Chn es HES.out (pre' ++ [(⟨((yt, yr), yv), hyk, hyv⟩ : PX)])) := HC0.out.2 (by rw [hz, hv])
                  rw [← hv] at y2
                  clear hz hv HC0
                  gi_wp2_with fail
                  refine region_round (F := Fence.wide) (l := l2) rfl (by kernel_rfl) (by kernel_rfl) (by kernel_rfl) ?_
                  repeat (gi_big_quiet_step (fail))
                  refine wpQuietIn_nil ?_
                  intro _ hw'
                  obtain ⟨nq2, hw''⟩ := hw'
                  subst hw''
                  have m2 : Boxed (U.drewN nq2) B14 TInt (.int .i64 (pre'.length : Int)) := m1
                  have HG : Hid (FrI w.heap.size U ((U.drewN nq2).setCell ⟨B14, 0, none⟩ (.int .i64 ((pre'.length : Int) + 1)))) := (FrI.drewN w.heap.size U nq2).trans (FrI.set (base := w.heap.size) m2 HVc.out.2.2 _)
                  have m3 : Boxed ((U.drewN nq2).setCell ⟨B14, 0, none⟩ (.int .i64 ((pre'.length : Int) + 1))) B14 TInt (.int .i64 ((pre' ++ [(⟨((yt, yr), yv), hyk, hyv⟩ : PX)]).length : Int)) := by
                    rw [List.length_append, List.length_singleton]
                    push_cast
                    exact m2.set _
                  gi_wp2_with fail
                  exact ⟨HG.out.others.from _, HXU.out.kfri HG.out, HC2.out, HFU.out.trans HG.out, m3⟩
                · have HC2 : Hid (¬ Chn es HES.out (pre' ++ [(⟨((yt, yr), yv), hyk, hyv⟩ : PX)])) := fun h => hv (by have := HC0.out.1 h; simp at this; exact this.2)
                  have hv' : (yv != es[pre'.length].v) = true := by simp; exact hv
                  generalize es[pre'.length].v = xv' at *
                  clear hz hv HC0
                  gi_wp2_with fail
                  refine region_round (F := Fence.wide) (l := l2) rfl (by kernel_rfl) (by kernel_rfl) (by kernel_rfl) ?_
                  repeat (gi_big_quiet_step (fail))
                  refine wpQuietIn_nil ?_
                  intro _ hw'
                  obtain ⟨nq2, hw''⟩ := hw'
                  subst hw''
                  gi_wp2_with fail
                  exact ⟨((keeps_drewN U nq2).trans (KeepsOthers.setCell _ _ _)).from _, rfl, HC2.out⟩
              · have HC2 : Hid (¬ Chn es HES.out (pre' ++ [(⟨((yt, yr), yv), hyk, hyv⟩ : PX)])) := fun h => hz (by have := HC0.out.1 h; simp at this; rw [← this.1])
                generalize es[pre'.length].k = z at *
                obtain ⟨z1, z2⟩ := z
                simp only at y0 y1
                have hq := run_neKey yt yr z1 z2
                rw [decide_eq_false hz, Bool.not_false] at hq
                have hgd := fun op x y => run_eqGuard op x y yt yr z1 z2
                clear hz HC0
                gi_wp2_with fail
                refine region_round (F := Fence.wide) (l := l2) rfl (by kernel_rfl) (by kernel_rfl) (by kernel_rfl) ?_
                repeat (gi_big_quiet_step (fail))
                refine wpQuietIn_nil ?_
                intro _ hw'
                obtain ⟨nq2, hw''⟩ := hw'
                subst hw''
                gi_wp2_with fail
                exact ⟨((keeps_drewN U nq2).trans (KeepsOthers.setCell _ _ _)).from _, rfl, HC2.out⟩
          case rest2 =>
            rintro D2 W5 hD2 ⟨hF5, b5⟩ hK2
            have HXs := fold_hid (HX4.out.fri hF5)
            have bs : Boxed W5 B14 TInt (.int .i64 (N : Int)) := b5
            have HKs : Hid (Mks w.heap.size W5 [D2, D1]) := (Mks.one (Nat.le_trans HVc.out.1 HK4.out.1) HK4.out.2).cons hF5 HVw.out hD2 hK2
            clear hF5 b5 hK2 hD2 HX4 b4 HK4 HB4 hlt4
            have hxs3 := HXs.out
            have hEa3 := weachN_any W5 w.heap.size D M Ld [] 0 hxs3.s.wd (by simp)
            rw [ptI_nil] at hEa3
            have HEa3 := fold_hid hEa3
            obtain ⟨_, _, c5, _⟩ := hxs3.s.cells
            clear hxs3 hEa3
            go_wp2_with fail
            refine HEa3.out.mono ?_
            rintro e U3 ⟨Bi, gi, rfl, ⟨hIL, _⟩, hbU⟩
            have HFe := fold_hid (FrI.bel hbU HXs.out.s.bel.size)
            have HXe := fold_hid (HXs.out.fri HFe.out)
            have be : Boxed U3 B14 TInt (.int .i64 (N : Int)) := (hbU.block _ bs.lt).trans bs
            have HKe := fold_hid (HKs.out.fri HFe.out)
            have HIe := fold_hid hIL
            clear hIL hbU HFe HXs bs HKs HEa3 c5
            go_wp2_with fail
            refine wp_gen (fun a' => FX B3 B4 B5 B7 B13 B14 a' ∧ a'.defers = [mk D2, mk D1] ∧ a'.tmps.getD 230 undef = .func (.func fEach) #[] #[ptr Bi]) ⟨⟨rfl, rfl, rfl, rfl, rfl, rfl, rfl⟩, rfl, rfl⟩ ?_
            clear h202 f
            rintro ⟨tm, df⟩ ⟨hFX, hdf, h230⟩
            have e1 := lit_eq tm hFX.sz
            generalize hf' : (fun i => tm.getD i undef) = f at e1
            have g3 : f 3 = ptr B3 := by rw [← hf']; exact hFX.t3
            have g4 : f 4 = ptr B4 := by rw [← hf']; exact hFX.t4
            have g5 : f 5 = ptr B5 := by rw [← hf']; exact hFX.t5
            have g7 : f 7 = ptr B7 := by rw [← hf']; exact hFX.t7
            have g13 : f 13 = ptr B13 := by rw [← hf']; exact hFX.t13
            have g14 : f 14 = ptr B14 := by rw [← hf']; exact hFX.t14
            have g230 : f 230 = .func (.func fEach) #[] #[ptr Bi] := by rw [← hf']; exact h230
            unfold lit at e1
            rw [g3, g4, g5, g7, g13, g14, g230] at e1
            simp only at hdf
            subst e1 hdf
            clear hf' g3 g4 g5 g7 g13 g14 g230 hFX
            have HBe : Hid (Bi < U3.heap.size ∧ gi < U3.heap.size ∧ w.heap.size ≤ U3.heap.size) := ⟨blk_lt HIe.out.box, HIe.out.gl, HXe.out.s.bel.size⟩
            refine (wpIn_wide (n := 10)).1 ?_
            refine loop_cut0 (fun W' => FrI w.heap.size U3 W' ∧ Boxed W' B14 TInt (.int .i64 (N : Int))) ?loopE3 ?restE3
            case loopE3 =>
              refine wpIn_rangeFunc_ownH rfl (by omega) (gf := fEach) (lb := #[ptr Bi]) rfl trivial (enters_of Try.func17 (by kernel_rfl) rfl)
                (each_stops Fence.wide 9 trivial rfl (by omega) Bi gi 0 [] (by simp) rfl (by omega) U3 HIe.out) KBG.trans (KBG.put HBe.out.1 HBe.out.2.1) (Below.refl _ _) (fun _ => rfl)
                (fun _ W' => FrI w.heap.size U3 W' ∧ Boxed W' B14 TInt (.int .i64 (N : Int)))
                (fun _ _ _ => False)
                (OwnFrom.and (fun s X Y row hs hg hr => hs.own HBe.out.2.2 hg hr) (Own.from (boxed_own B14 TInt (fun _ => .int .i64 (N : Int))) _))
                (fun c s X Y row hs _ _ => hs)
                ⟨FrI.refl _ _, be⟩
                (fun _ _ _ => True)
                (fun _ _ _ _ _ _ _ _ _ => trivial)
                ?assignE ?bodyE ?doneE ?stopE
              case assignE =>
                rintro l pre x W' K hF hK
                gi_wp2
                exact hK _ _ (KeepsFrom.refl _ _) (KBG.refl _ _ _) hF trivial
              case doneE =>
                rintro D' ys W' hD rfl hF hK
                exact ⟨rfl, D', hD, rfl, hF, hK⟩
              case stopE =>
                rintro D' c pre W' hD _ hF hK
                exact hF.elim
              case bodyE =>
                rintro l pre x a' W' hl _ _ _ hlt
                exact absurd hlt (by omega)
            case restE3 =>
              rintro D3 X3 hDk ⟨hFk, bk⟩ hKk
              have HXs := fold_hid (HXe.out.fri hFk)
              have bs : Boxed X3 B14 TInt (.int .i64 (N : Int)) := bk
              have HKs := fold_hid (HKe.out.cons hFk HBe.out.2.2 hDk hKk)
              clear hFk bk hKk hDk HXe be HKe HIe HBe
              have hxs4 := HXs.out
              have hEa4 := weachN_any X3 w.heap.size D M Ld [] 1 hxs4.s.wd (by simp)
              rw [ptI_nil] at hEa4
              have HEa4 := fold_hid hEa4
              obtain ⟨_, _, c5, _⟩ := hxs4.s.cells
              clear hxs4 hEa4
              go_wp2_with fail
              refine HEa4.out.mono ?_
              rintro e U4 ⟨Bi, gi, rfl, ⟨hIL, _⟩, hbU⟩
              have HFe := fold_hid (FrI.bel hbU HXs.out.s.bel.size)
              have HXe := fold_hid (HXs.out.fri HFe.out)
              have be : Boxed U4 B14 TInt (.int .i64 (N : Int)) := (hbU.block _ bs.lt).trans bs
              have HKe := fold_hid (HKs.out.fri HFe.out)
              have HIe := fold_hid hIL
              clear hIL hbU HFe HXs bs HKs HEa4 c5
              go_wp2_with fail
              refine wp_gen (fun a' => FX B3 B4 B5 B7 B13 B14 a' ∧ a'.defers = [mk D3, mk D2, mk D1] ∧ a'.tmps.getD 234 undef = .func (.func fEach) #[] #[ptr Bi]) ⟨⟨rfl, rfl, rfl, rfl, rfl, rfl, rfl⟩, rfl, rfl⟩ ?_
              clear h230 f
              rintro ⟨tm, df⟩ ⟨hFX, hdf, h234⟩
              have e1 := lit_eq tm hFX.sz
              generalize hf' : (fun i => tm.getD i undef) = f at e1
              have g3 : f 3 = ptr B3 := by rw [← hf']; exact hFX.t3
              have g4 : f 4 = ptr B4 := by rw [← hf']; exact hFX.t4
              have g5 : f 5 = ptr B5 := by rw [← hf']; exact hFX.t5
              have g7 : f 7 = ptr B7 := by rw [← hf']; exact hFX.t7
              have g13 : f 13 = ptr B13 := by rw [← hf']; exact hFX.t13
              have g14 : f 14 = ptr B14 := by rw [← hf']; exact hFX.t14
              have g234 : f 234 = .func (.func fEach) #[] #[ptr Bi] := by rw [← hf']; exact h234
              unfold lit at e1
              rw [g3, g4, g5, g7, g13, g14, g234] at e1
              simp only at hdf
              subst e1 hdf
              clear hf' g3 g4 g5 g7 g13 g14 g234 hFX
              have HBe : Hid (Bi < U4.heap.size ∧ gi < U4.heap.size ∧ w.heap.size ≤ U4.heap.size) := ⟨blk_lt HIe.out.box, HIe.out.gl, HXe.out.s.bel.size⟩
              refine (wpIn_wide (n := 10)).1 ?_
              refine loop_cut0 (fun W' => FrI w.heap.size U4 W' ∧ Boxed W' B14 TInt (.int .i64 (N : Int))) ?loopE4 ?restE4
              case loopE4 =>
                refine wpIn_rangeFunc_ownH rfl (by omega) (gf := fEach) (lb := #[ptr Bi]) rfl trivial (enters_of Try.func17 (by kernel_rfl) rfl)
                  (each_stops Fence.wide 9 trivial rfl (by omega) Bi gi 0 [] (by simp) rfl (by omega) U4 HIe.out) KBG.trans (KBG.put HBe.out.1 HBe.out.2.1) (Below.refl _ _) (fun _ => rfl)
                  (fun _ W' => FrI w.heap.size U4 W' ∧ Boxed W' B14 TInt (.int .i64 (N : Int)))
                  (fun _ _ _ => False)
                  (OwnFrom.and (fun s X Y row hs hg hr => hs.own HBe.out.2.2 hg hr) (Own.from (boxed_own B14 TInt (fun _ => .int .i64 (N : Int))) _))
                  (fun c s X Y row hs _ _ => hs)
                  ⟨FrI.refl _ _, be⟩
                  (fun _ _ _ => True)
                  (fun _ _ _ _ _ _ _ _ _ => trivial)
                  ?assignE ?bodyE ?doneE ?stopE
                case assignE =>
                  rintro l pre x W' K hF hK
                  gi_wp2
                  exact hK _ _ (KeepsFrom.refl _ _) (KBG.refl _ _ _) hF trivial
                case doneE =>
                  rintro D' ys W' hD rfl hF hK
                  exact ⟨rfl, D', hD, rfl, hF, hK⟩
                case stopE =>
                  rintro D' c pre W' hD _ hF hK
                  exact hF.elim
                case bodyE =>
                  rintro l pre x a' W' hl _ _ _ hlt
                  exact absurd hlt (by omega)
              case restE4 =>
                rintro D4 X4 hDk ⟨hFk, bk⟩ hKk
                have HXs := fold_hid (HXe.out.fri hFk)
                have bs : Boxed X4 B14 TInt (.int .i64 (N : Int)) := bk
                have HKs := fold_hid (HKe.out.cons hFk HBe.out.2.2 hDk hKk)
                clear hFk bk hKk hDk HXe be HKe HIe HBe
                have hxs5 := HXs.out
                have hEa5 := weachN_any X4 w.heap.size D M Ld [] (-1) hxs5.s.wd (by simp)
                rw [ptI_nil] at hEa5
                have HEa5 := fold_hid hEa5
                obtain ⟨_, _, c5, _⟩ := hxs5.s.cells
                clear hxs5 hEa5
                go_wp2_with fail
                refine HEa5.out.mono ?_
                rintro e U5 ⟨Bi, gi, rfl, ⟨hIL, _⟩, hbU⟩
                have HFe := fold_hid (FrI.bel hbU HXs.out.s.bel.size)
                have HXe := fold_hid (HXs.out.fri HFe.out)
                have be : Boxed U5 B14 TInt (.int .i64 (N : Int)) := (hbU.block _ bs.lt).trans bs
                have HKe := fold_hid (HKs.out.fri HFe.out)
                have HIe := fold_hid hIL
                clear hIL hbU HFe HXs bs HKs HEa5 c5
                go_wp2_with fail
                refine wp_gen (fun a' => FX B3 B4 B5 B7 B13 B14 a' ∧ a'.defers = [mk D4, mk D3, mk D2, mk D1] ∧ a'.tmps.getD 238 undef = .func (.func fEach) #[] #[ptr Bi]) ⟨⟨rfl, rfl, rfl, rfl, rfl, rfl, rfl⟩, rfl, rfl⟩ ?_
                clear h234 f
                rintro ⟨tm, df⟩ ⟨hFX, hdf, h238⟩
                have e1 := lit_eq tm hFX.sz
                generalize hf' : (fun i => tm.getD i undef) = f at e1
                have g3 : f 3 = ptr B3 := by rw [← hf']; exact hFX.t3
                have g4 : f 4 = ptr B4 := by rw [← hf']; exact hFX.t4
                have g5 : f 5 = ptr B5 := by rw [← hf']; exact hFX.t5
                have g7 : f 7 = ptr B7 := by rw [← hf']; exact hFX.t7
                have g13 : f 13 = ptr B13 := by rw [← hf']; exact hFX.t13
                have g14 : f 14 = ptr B14 := by rw [← hf']; exact hFX.t14
                have g238 : f 238 = .func (.func fEach) #[] #[ptr Bi] := by rw [← hf']; exact h238
                unfold lit at e1
                rw [g3, g4, g5, g7, g13, g14, g238] at e1
                simp only at hdf
                subst e1 hdf
                clear hf' g3 g4 g5 g7 g13 g14 g238 hFX
                have HBe : Hid (Bi < U5.heap.size ∧ gi < U5.heap.size ∧ w.heap.size ≤ U5.heap.size) := ⟨blk_lt HIe.out.box, HIe.out.gl, HXe.out.s.bel.size⟩
                refine (wpIn_wide (n := 10)).1 ?_
                refine loop_cut0 (fun W' => FrI w.heap.size U5 W' ∧ Boxed W' B14 TInt (.int .i64 (N : Int))) ?loopE5 ?restE5
                case loopE5 =>
                  refine wpIn_rangeFunc_ownH rfl (by omega) (gf := fEach) (lb := #[ptr Bi]) rfl trivial (enters_of Try.func17 (by kernel_rfl) rfl)
                    (each_stops Fence.wide 9 trivial rfl (by omega) Bi gi 0 [] (by simp) rfl (by omega) U5 HIe.out) KBG.trans (KBG.put HBe.out.1 HBe.out.2.1) (Below.refl _ _) (fun _ => rfl)
                    (fun _ W' => FrI w.heap.size U5 W' ∧ Boxed W' B14 TInt (.int .i64 (N : Int)))
                    (fun _ _ _ => False)
                    (OwnFrom.and (fun s X Y row hs hg hr => hs.own HBe.out.2.2 hg hr) (Own.from (boxed_own B14 TInt (fun _ => .int .i64 (N : Int))) _))
                    (fun c s X Y row hs _ _ => hs)
                    ⟨FrI.refl _ _, be⟩
                    (fun _ _ _ => True)
                    (fun _ _ _ _ _ _ _ _ _ => trivial)
                    ?assignE ?bodyE ?doneE ?stopE
                  case assignE =>
                    rintro l pre x W' K hF hK
                    gi_wp2
                    exact hK _ _ (KeepsFrom.refl _ _) (KBG.refl _ _ _) hF trivial
                  case doneE =>
                    rintro D' ys W' hD rfl hF hK
                    exact ⟨rfl, D', hD, rfl, hF, hK⟩
                  case stopE =>
                    rintro D' c pre W' hD _ hF hK
                    exact hF.elim
                  case bodyE =>
                    rintro l pre x a' W' hl _ _ _ hlt
                    exact absurd hlt (by omega)
                case restE5 =>
                  rintro D5 X5 hDk ⟨hFk, bk⟩ hKk
                  have HXs := fold_hid (HXe.out.fri hFk)
                  have bs : Boxed X5 B14 TInt (.int .i64 (N : Int)) := bk
                  have HKs := fold_hid (HKe.out.cons hFk HBe.out.2.2 hDk hKk)
                  clear hFk bk hKk hDk HXe be HKe HIe HBe
                  have hxs6 := HXs.out
                  have HPu : Hid (Calls Try.prog 5 #[ptr D, .agg #[.int .i64 3, .int .i64 0], .int .i64 4] X5 fun e w' => (∃ a b, e = .returned (.tuple #[.int .i64 a, .bool b])) ∧ FrK w.heap.size X5 w' ∧ NcM M X5 w' ∧ ∃ E, WD w' w.heap.size D M Ld [⟨E, (3, 0), 4, 0⟩]) :=
                    wput1_any X5 w.heap.size D M Ld (3, 0) 4 hxs6.s.wd (by refine ⟨⟨?_, ?_⟩, ⟨?_, ?_⟩⟩ <;> simp) (by refine ⟨?_, ?_⟩ <;> simp)
                  obtain ⟨_, _, c5, _⟩ := hxs6.s.cells
                  have hnM := fold_hid hxs6.s.wd.notM
                  clear hxs6
                  go_wp2_with fail
                  refine HPu.out.mono ?_
                  rintro e U6 ⟨⟨pa, pb, rfl⟩, hfk, hnc, E6, hwd⟩
                  have HX6 := fold_hid (HXs.out.dict hfk hwd).1
                  have b6 : Boxed U6 B14 TInt (.int .i64 (N : Int)) := hfk.boxed bs (by decide) (by decide)
                  have HK6 := fold_hid (HKs.out.nc hnc hnM.out)
                  have hEa := weachN_any U6 w.heap.size D M Ld [⟨E6, (3, 0), 4, 0⟩] 0 hwd (by simp)
                  rw [hwd.all] at hEa
                  have HEa := fold_hid hEa
                  have HE6 : Hid (∀ e ∈ [(⟨E6, (3, 0), 4, 0⟩ : En)], KIn e.k ∧ In64 e.v) := fun e he => (hwd.da.pp e he).2
                  clear hfk hnc hwd hEa HXs bs HKs HPu c5 hnM
                  obtain ⟨_, _, c5, _⟩ := HX6.out.s.cells
                  go_wp2_with fail
                  refine HEa.out.mono ?_
                  rintro e U7 ⟨Bi, gi, rfl, ⟨hIL, hgt7⟩, hbU⟩
                  have HG7 := fold_hid hgt7
                  have HFe := fold_hid (FrI.bel hbU HX6.out.s.bel.size)
                  have HXe := fold_hid (HX6.out.fri HFe.out)
                  have be : Boxed U7 B14 TInt (.int .i64 (N : Int)) := (hbU.block _ b6.lt).trans b6
                  have HKe := fold_hid (HK6.out.fri HFe.out)
                  have HIe := fold_hid hIL
                  clear hIL hgt7 hbU HFe HX6 b6 HK6 HEa c5
                  go_wp2_with fail
                  refine wp_gen (fun a' => FX B3 B4 B5 B7 B13 B14 a' ∧ a'.defers = [mk D5, mk D4, mk D3, mk D2, mk D1] ∧ a'.tmps.getD 245 undef = .func (.func fEach) #[] #[ptr Bi]) ⟨⟨rfl, rfl, rfl, rfl, rfl, rfl, rfl⟩, rfl, rfl⟩ ?_
                  clear h238 f
                  rintro ⟨tm, df⟩ ⟨hFX, hdf, h245⟩
                  have e1 := lit_eq tm hFX.sz
                  generalize hf' : (fun i => tm.getD i undef) = f at e1
                  have g3 : f 3 = ptr B3 := by rw [← hf']; exact hFX.t3
                  have g4 : f 4 = ptr B4 := by rw [← hf']; exact hFX.t4
                  have g5 : f 5 = ptr B5 := by rw [← hf']; exact hFX.t5
                  have g7 : f 7 = ptr B7 := by rw [← hf']; exact hFX.t7
                  have g13 : f 13 = ptr B13 := by rw [← hf']; exact hFX.t13
                  have g14 : f 14 = ptr B14 := by rw [← hf']; exact hFX.t14
                  have g245 : f 245 = .func (.func fEach) #[] #[ptr Bi] := by rw [← hf']; exact h245
                  unfold lit at e1
                  rw [g3, g4, g5, g7, g13, g14, g245] at e1
                  simp only at hdf
                  subst e1 hdf
                  clear hf' g3 g4 g5 g7 g13 g14 g245 hFX
                  have HBe : Hid (Bi < U7.heap.size ∧ gi < U7.heap.size ∧ w.heap.size ≤ U7.heap.size) := ⟨blk_lt HIe.out.box, HIe.out.gl, HXe.out.s.bel.size⟩
                  refine (wpIn_wide (n := 10)).1 ?_
                  refine loop_cut0 (fun W' => FrI w.heap.size U7 W' ∧ Boxed W' B14 TInt (.int .i64 ((N : Int) + 1))) ?loopL ?restL
                  case loopL =>
                    refine wpIn_rangeFunc_ownH rfl (by omega) (gf := fEach) (lb := #[ptr Bi]) rfl trivial (enters_of Try.func17 (by kernel_rfl) rfl)
                      (each_stops Fence.wide 9 trivial rfl (by omega) Bi gi 1 [⟨E6, (3, 0), 4, 0⟩] HE6.out rfl (by omega) U7 HIe.out) KBG.trans (KBG.put HBe.out.1 HBe.out.2.1) (Below.refl _ _) (fun _ => rfl)
                      (fun pre W' => Chn [⟨E6, (3, 0), 4, 0⟩] HE6.out pre ∧ FrI w.heap.size U7 W' ∧ Boxed W' B14 TInt (.int .i64 ((N : Int) + (pre.length : Int))))
                      (fun c pre _ => c = .ret ∧ ¬ Chn [⟨E6, (3, 0), 4, 0⟩] HE6.out pre)
                      (OwnFrom.and (ownFrom_pure _ _) (OwnFrom.and (fun s X Y row hs hg hr => hs.own HBe.out.2.2 hg hr) (Own.from (boxed_own _ _ _) _)))
                      (fun c => ownFrom_pure _ _)
                      ⟨chn_nil _ HE6.out, FrI.refl _ _, by simpa using be⟩
                      (fun x a' W' => ∃ Bx, KBoxed W' Bx x.1.1.1 x.1.1.2 ∧ FX B3 B4 B5 B7 B13 B14 a' ∧ a'.defers = [] ∧ a'.tmps.getD 23 undef = ptr Bx ∧ a'.tmps.getD 24 undef = .int .i64 x.1.2)
                      (fun x a' _ X Y row hs hg hr => by obtain ⟨Bx, e2, e3⟩ := hs; exact ⟨Bx, e2.own hg (fun r e => (hr r e).2), e3⟩)
                      ?assignL ?bodyL ?doneL ?stopL
                    case assignL =>
                      rintro l pre x W' K ⟨hp, hF, b1⟩ hK
                      have hfr : ∀ o, FrI w.heap.size W' (W'.alloc o) := fun o => FrI.bel ((Below.refl _ _).alloc (Nat.le_refl _) _) (HXe.out.fri hF).s.bel.size
                      have hlg : gi < W'.heap.size ∧ Bi < W'.heap.size := by have := HBe.out; have := hF.size; omega
                      gi_wp2
                      exact hK _ _ ((KeepsOthers.alloc _ _).from _) (KBG.alloc hlg.2 hlg.1 _) ⟨hp, hF.trans (hfr _), b1.alloc _⟩ ⟨W'.heap.size, KBoxed.new W' _ _, ⟨rfl, rfl, rfl, rfl, rfl, rfl, rfl⟩, rfl, rfl, rfl⟩
                    case doneL =>
                      rintro D' ys W' hD rfl ⟨hp, hF, b1⟩ hK
                      rw [upto_length] at b1
                      exact ⟨rfl, D', hD, rfl, ⟨hF, by simpa using b1⟩, hK⟩
                    case stopL =>
                      rintro D' c pre W' hD ⟨j, hj, rfl⟩ ⟨_, hn⟩ hK
                      exact absurd (chn_upto _ HE6.out j) hn
                    case bodyL =>
                      rintro l pre x ⟨tm, df⟩ U hl ⟨rr, hrr⟩ ⟨hp, hF, m1⟩ ⟨Bx, bX, hFX, hdf, h23, h24⟩ hlt
                      obtain ⟨⟨⟨xt, xr⟩, xv⟩, hxk, hxv⟩ := x
                      have e1 := lit_eq tm hFX.sz
                      generalize hf' : (fun i => tm.getD i undef) = f at e1
                      have g3 : f 3 = ptr B3 := by rw [← hf']; exact hFX.t3
                      have g4 : f 4 = ptr B4 := by rw [← hf']; exact hFX.t4
                      have g5 : f 5 = ptr B5 := by rw [← hf']; exact hFX.t5
                      have g7 : f 7 = ptr B7 := by rw [← hf']; exact hFX.t7
                      have g13 : f 13 = ptr B13 := by rw [← hf']; exact hFX.t13
                      have g14 : f 14 = ptr B14 := by rw [← hf']; exact hFX.t14
                      have g23 : f 23 = ptr Bx := by rw [← hf']; exact h23
                      have g24 : f 24 = .int .i64 xv := by rw [← hf']; exact h24
                      unfold lit at e1
                      rw [g3, g4, g5, g7, g13, g14, g23, g24] at e1
                      simp only at hdf
                      subst e1 hdf
                      clear hf' g3 g4 g5 g7 g13 g14 g23 g24 hFX
                      have hp0 : pre = [] := List.eq_nil_of_length_eq_zero (by omega)
                      subst hp0
                      have HC0 : Hid (Chn [⟨E6, (3, 0), 4, 0⟩] HE6.out ([] ++ [(⟨((xt, xr), xv), hxk, hxv⟩ : PX)]) ↔ (((xt, xr), xv) : K × Int) = ((3, 0), 4)) := chn_snoc (x := (⟨((xt, xr), xv), hxk, hxv⟩ : PX)) hp (by simp)
                      have m1' : Boxed U B14 TInt (.int .i64 (N : Int)) := by simpa using m1
                      have cM := m1'.cell
                      have fM := m1'.frozen
                      have hxU := HXe.out.fri hF
                      obtain ⟨c3, c4, c5, c7⟩ := hxU.s.cells
                      have f4 := frozen_of_row U B4 0 _ _ hxU.s.b4
                      have k1 := bX.cell.1
                      have k2 := bX.cell.2
                      simp only at k1 k2
                      have HFU := fold_hid hF
                      have hlg : gi < U.heap.size ∧ Bi < U.heap.size := by have := HBe.out; have := hF.size; omega
                      clear hxU hF m1
                      have hgd := fun op x y => run_eqGuard op x y xt xr 3 0
                      by_cases hz : (xt, xr) = (3, 0)
                      · have hq := run_neKey xt xr 3 0
                        rw [show decide ((xt, xr) = (3, 0)) = true by simpa using hz] at hq
                        simp only [Bool.not_true] at hq
                        by_cases hv : xv = 4
                        · have HC2 : Hid (Chn [⟨E6, (3, 0), 4, 0⟩] HE6.out ([] ++ [(⟨((xt, xr), xv), hxk, hxv⟩ : PX)])) := HC0.out.2 (by rw [hz, hv])
                          have hv' : (xv != 4) = false := by simp; exact hv
                          have HG := fold_hid (FrI.set (base := w.heap.size) m1' HVc.out.2.2 (.int .i64 ((N : Int) + 1)))
                          have m3 := m1'.set (.int .i64 ((N : Int) + 1))
                          have HKb : Hid (KBG Bi gi U (U.setCell ⟨B14, 0, none⟩ (.int .i64 ((N : Int) + 1)))) := by
                            obtain ⟨cur7, hg7⟩ := HG7.out
                            have hgU := HFU.out.oth _ _ hg7 (fun _ e => by simp only [Obj.cells.injEq] at e; exact absurd e.2.1 (by decide))
                            have hbU := HFU.out.oth _ _ HIe.out.box (fun _ e => by simp only [Obj.cells.injEq] at e; exact absurd e.2.1 (by decide))
                            exact ⟨HG.out.size, (HG.out.oth _ _ hbU (fun _ e => by simp only [Obj.cells.injEq] at e; exact absurd e.2.1 (by decide))).trans hbU.symm, (HG.out.oth _ _ hgU (fun _ e => by simp only [Obj.cells.injEq] at e; exact absurd e.2.1 (by decide))).trans hgU.symm⟩
                          clear hz hv HC0
                          gi_wp2_with fail
                          exact ⟨HG.out.others.from _, HKb.out, HC2.out, HFU.out.trans HG.out, by simpa using m3⟩
                        · have HC2 : Hid (¬ Chn [⟨E6, (3, 0), 4, 0⟩] HE6.out ([] ++ [(⟨((xt, xr), xv), hxk, hxv⟩ : PX)])) := fun h => hv (by have := HC0.out.1 h; simp at this; exact this.2)
                          have hv' : (xv != 4) = true := by simp; exact hv
                          clear hz hv HC0
                          gi_wp2_with fail
                          exact ⟨(KeepsOthers.setCell _ _ _).from _, rfl, HC2.out⟩
                      · have HC2 : Hid (¬ Chn [⟨E6, (3, 0), 4, 0⟩] HE6.out ([] ++ [(⟨((xt, xr), xv), hxk, hxv⟩ : PX)])) := fun h => hz (by have := HC0.out.1 h; simp at this; simpa using this.1)
                        have hq := run_neKey xt xr 3 0
                        rw [show decide ((xt, xr) = (3, 0)) = false by simpa using hz] at hq
                        simp only [Bool.not_false] at hq
                        clear hz HC0
                        gi_wp2_with fail
                        exact ⟨(KeepsOthers.setCell _ _ _).from _, rfl, HC2.out⟩
                  case restL =>
                    rintro D6 X6 hDk ⟨hFk, bk⟩ hKk
                    have HXs := fold_hid (HXe.out.fri hFk)
                    have HKs := fold_hid (HKe.out.cons hFk HBe.out.2.2 hDk hKk)
                    clear hFk hKk hDk HXe be HKe HIe HBe
                    have cN := bk.cell
                    obtain ⟨c3, c4, c5, c7⟩ := HXs.out.s.cells
                    have f4 := frozen_of_row X6 B4 0 _ _ HXs.out.s.b4
                    go_wp2_with fail
                    have hb9 : Below w.heap.size w (X6.setCell ⟨B4, 0, none⟩ (.bool true)) := HXs.out.s.bel.setCell (p := ⟨B4, 0, none⟩) HB4w.out _
                    have r9 : (X6.setCell ⟨B4, 0, none⟩ (.bool true)).cell? ⟨B4, 0, none⟩ = some (.bool true) := by rw [World.cell?, heap_setCell_same X6 B4 0 _ _ (.bool true) HXs.out.s.b4]; rfl
                    have k9 : Mks w.heap.size (X6.setCell ⟨B4, 0, none⟩ (.bool true)) [D6, D5, D4, D3, D2, D1] := ⟨fun d hd => ⟨(HKs.out.al d hd).1, (KeepsOthers.setCell X6 ⟨B4, 0, none⟩ _).same _ _ (HKs.out.al d hd).2 rfl⟩, HKs.out.pw⟩
                    generalize X6.setCell ⟨B4, 0, none⟩ (.bool true) = W9 at *
                    obtain ⟨h6, l6, q6⟩ := k9.take
                    have r6' := cell_kept r9 (grownBy_putObj' W9 D6 (.deferred none)) (fun r e => by cases e; exact ⟨_, h6, rfl⟩)
                    have b6' := hb9.trans (belowK_b (w := w) (Nat.le_refl _) W9 D6 _ (.deferred none) l6 h6 rfl rfl)
                    obtain ⟨h5, l5, q5⟩ := q6.take
                    have r5' := cell_kept r6' (grownBy_putObj' (W9.putObj D6 (.deferred none)) D5 (.deferred none)) (fun r e => by cases e; exact ⟨_, h5, rfl⟩)
                    have b5' := b6'.trans (belowK_b (w := w) (Nat.le_refl _) (W9.putObj D6 (.deferred none)) D5 _ (.deferred none) l5 h5 rfl rfl)
                    obtain ⟨h4, l4, q4⟩ := q5.take
                    have r4' := cell_kept r5' (grownBy_putObj' ((W9.putObj D6 (.deferred none)).putObj D5 (.deferred none)) D4 (.deferred none)) (fun r e => by cases e; exact ⟨_, h4, rfl⟩)
                    have b4' := b5'.trans (belowK_b (w := w) (Nat.le_refl _) ((W9.putObj D6 (.deferred none)).putObj D5 (.deferred none)) D4 _ (.deferred none) l4 h4 rfl rfl)
                    obtain ⟨h3, l3, q3⟩ := q4.take
                    have r3' := cell_kept r4' (grownBy_putObj' (((W9.putObj D6 (.deferred none)).putObj D5 (.deferred none)).putObj D4 (.deferred none)) D3 (.deferred none)) (fun r e => by cases e; exact ⟨_, h3, rfl⟩)
                    have b3' := b4'.trans (belowK_b (w := w) (Nat.le_refl _) (((W9.putObj D6 (.deferred none)).putObj D5 (.deferred none)).putObj D4 (.deferred none)) D3 _ (.deferred none) l3 h3 rfl rfl)
                    obtain ⟨h2, l2, q2⟩ := q3.take
                    have r2' := cell_kept r3' (grownBy_putObj' ((((W9.putObj D6 (.deferred none)).putObj D5 (.deferred none)).putObj D4 (.deferred none)).putObj D3 (.deferred none)) D2 (.deferred none)) (fun r e => by cases e; exact ⟨_, h2, rfl⟩)
                    have b2' := b3'.trans (belowK_b (w := w) (Nat.le_refl _) ((((W9.putObj D6 (.deferred none)).putObj D5 (.deferred none)).putObj D4 (.deferred none)).putObj D3 (.deferred none)) D2 _ (.deferred none) l2 h2 rfl rfl)
                    obtain ⟨h1, l1, q1⟩ := q2.take
                    have r1' := cell_kept r2' (grownBy_putObj' (((((W9.putObj D6 (.deferred none)).putObj D5 (.deferred none)).putObj D4 (.deferred none)).putObj D3 (.deferred none)).putObj D2 (.deferred none)) D1 (.deferred none)) (fun r e => by cases e; exact ⟨_, h1, rfl⟩)
                    have b1' := b2'.trans (belowK_b (w := w) (Nat.le_refl _) (((((W9.putObj D6 (.deferred none)).putObj D5 (.deferred none)).putObj D4 (.deferred none)).putObj D3 (.deferred none)).putObj D2 (.deferred none)) D1 _ (.deferred none) l1 h1 rfl rfl)
                    refine ⟨by simp, .inl ⟨D6, _, rfl, run_takeDeferred h6, ⟨by simp, .inl ⟨D5, _, rfl, run_takeDeferred h5, ⟨by simp, .inl ⟨D4, _, rfl, run_takeDeferred h4, ⟨by simp, .inl ⟨D3, _, rfl, run_takeDeferred h3, ⟨by simp, .inl ⟨D2, _, rfl, run_takeDeferred h2, ⟨by simp, .inl ⟨D1, _, rfl, run_takeDeferred h1, ?_⟩⟩⟩⟩⟩⟩⟩⟩⟩⟩⟩⟩
                    refine ⟨.bool true, ?_, rfl, b1'⟩
                    simp [results, Try.f3, go_sem, r1']
end Go.Proofs.Ytenmkigoohpfmaa
