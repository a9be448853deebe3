/-
  Collect.
-/
import Derived.Test.YtbmohlkcmhhpgaaGreatBkThin
import Derived.Test.YtbmohlkcmhhpgaaGreatBkCollH
import Derived.Test.YtbmohlkcmhhpgaaGreatBkPinned
import Derived.Maps.RangeRun
namespace Go.Proofs.YtbmohlkcmhhpgaaGreat
open Go.RowKit Go.Sort

theorem run_next_all (w : World) (r bm since c0 : Nat) (seen : Array Nat) (es : Array MapEntry) (clock : Nat) (hr : w.heap[r]? = some (.mapIter (some bm) since seen c0)) (hb : w.heap[bm]? = some (.map es clock)) (hold : ∀ x ∈ es.toList, x.born < since) (hsc : since ≤ c0) :
    ((leftOf es seen).size = 0 ∧ ∀ ty, (Instr.next (.pointer (some ⟨r, 0, none⟩)) false ty).run Tryz.prog w = .ok (.tuple #[.bool false]) w) ∨
    ∃ e ∈ (leftOf es seen).toList, ∃ w1 : World, (w1 = w ∨ w1 = w.drew) ∧ ∀ ty, (Instr.next (.pointer (some ⟨r, 0, none⟩)) false ty).run Tryz.prog w = .ok (.tuple #[.bool true, e.key, e.val]) (ChangeMaps.setBlock w1 r (.mapIter (some bm) since (seen.push e.born) clock)) := by
  have hty : ∀ ty, (Instr.next (.pointer (some ⟨r, 0, none⟩)) false ty).run Tryz.prog w = (Instr.next (.pointer (some ⟨r, 0, none⟩)) false 0).run Tryz.prog w := fun _ => rfl
  rcases run_next_at (P := Tryz.prog) w 0 r bm since c0 seen es clock hr hb hold hsc with ⟨h0, hrun⟩ | ⟨e, he, w1, hw1, hrun⟩
  · exact .inl ⟨h0, fun ty => (hty ty).trans hrun⟩
  · exact .inr ⟨e, he, w1, hw1, fun ty => (hty ty).trans hrun⟩
theorem IAt.ofRow {w : World} {b : Nat} {v : Value} {d : List Int} (h : w.ownsRow b 3 1 v d.length (d.map ei)) : ∃ ao c, v = .slice ao d.length c ∧ IAt w ao d ∧ ∀ a, ao = some a → b ≤ a.block ∧ a.block < w.heap.size := by
  have hlt := World.ownsRow.lt h
  obtain ⟨hl, ⟨rfl, h0⟩ | ⟨g, cap, cur, rfl, hb, hh, h4, h5, h6, h7⟩⟩ := h
  · exact ⟨none, 0, by rw [h0], fun i hi => by omega, fun a e => by cases e⟩
  · refine ⟨_, cap, rfl, fun i hi => ⟨g, 0, rfl, ?_⟩, fun a e => by cases e; exact hlt g rfl⟩
    have h8 : (d.map ei)[i]? = some (ei d[i]) := by simp [hi]
    rw [← h7, List.getElem?_take] at h8
    split at h8
    · rw [World.cell?, hh]; simpa using h8
    · cases h8
/-- the floor is told -/
theorem BA.setFloor {w : World} {B Mp Mc Mn : Nat} {cap latest floor : Int} {pins : List (Int × Int)} {all : List V4} {nw : List K} (h : BA w B Mp Mc Mn cap latest floor pins all nw) : BA (w.setCell ⟨B, 2, none⟩ (.int .i64 latest)) B Mp Mc Mn cap latest latest pins all nw := by
  have hne := h.Bne
  have hs : ∀ k, k ≠ B → (w.setCell ⟨B, 2, none⟩ (.int .i64 latest)).heap[k]? = w.heap[k]? := fun k hk => heap_setCell_other _ _ _ _ (fun e => hk e)
  refine ⟨?_, h.mp.same (hs _ hne.1.symm), h.mc.same (hs _ hne.2.1.symm), h.mn.same (hs _ hne.2.2.symm), h.nwa, h.ne, h.cp, ?_, h.ln, h.pl, h.ps, h.rs, h.ik⟩
  · rw [heap_setCell_same w B 2 _ _ _ h.bk]; rfl
  · have := h.la; omega
def CollPost (w : World) (B Mp Mc Mn : Nat) (cap latest : Int) (pins : List (Int × Int)) (all : List V4) (nw : List K) (e : Ending) (w' : World) : Prop :=
  ∃ d all', d.Pairwise (· < ·) ∧ d.Perm (pins.map Prod.fst) ∧ CollN d all all' ∧ e = .returned (.int .i64 ((all.length : Int) - (all'.length : Int))) ∧ BA w' B Mp Mc Mn cap latest latest pins all' nw ∧ Fr (SB B Mp Mc Mn) w w'
set_option maxRecDepth 100000 in
set_option maxHeartbeats 4000000 in
theorem collect_any (w : World) (B Mp Mc Mn : Nat) (cap latest floor : Int) (pins : List (Int × Int)) (all : List V4) (nw : List K) (h : BA w B Mp Mc Mn cap latest floor pins all nw) :
    Calls Tryz.prog 24 #[ptr B] w fun e w' => CollPost w B Mp Mc Mn cap latest pins all nw e w' := by
  have HC1 := hidC (charge_any w B Mp Mc Mn cap latest floor pins all nw h)
  obtain ⟨_, c1, c2, _⟩ := h.cells
  have f2 := h.frozen 2
  have HA2 : Hid (BA (w.setCell ⟨B, 2, none⟩ (.int .i64 latest)) B Mp Mc Mn cap latest latest pins all nw ∧ Fr (SB B Mp Mc Mn) w (w.setCell ⟨B, 2, none⟩ (.int .i64 latest))) := ⟨h.setFloor, (Fr.refl _ _).set _ _ (.inr (.inl rfl))⟩
  have hal := h.ln
  have hcp := h.cp
  obtain ⟨na, hna⟩ : ∃ na, na = all.length := ⟨_, rfl⟩
  have HNa := hidC hna
  rw [← hna] at HC1 hal
  clear h hna
  go_enter Tryz.func24, Tryz.ntmps24
  go_wp2_with fail
  refine HC1.out.mono ?_
  rintro e w1 ⟨rfl, hw1⟩
  have hw1' := hw1.symm
  subst hw1'
  clear hw1 HC1
  generalize hW2 : w.setCell ⟨B, 2, none⟩ (.int .i64 latest) = W2 at *
  have HPn := hidC (pinned_any W2 B Mp Mc Mn cap latest latest pins all nw HA2.out.1)
  go_wp2_with fail
  clear hW2
  refine HPn.out.mono ?_
  rintro e W3 ⟨v, d, rfl, hsd, hpd, hrow, hb3⟩
  obtain ⟨ao, c, rfl, hia, hag⟩ := IAt.ofRow hrow
  have HD : Hid (d.Pairwise (· < ·) ∧ d.Perm (pins.map Prod.fst) ∧ d.length ≤ 32) := ⟨hsd, hpd, by have h1 := hpd.length_eq; rw [List.length_map] at h1; have := HA2.out.1.ps.1; omega⟩
  have HA3 := hidC (HA2.out.1.kept hb3)
  have HF3 : Hid (Fr (SB B Mp Mc Mn) w W3) := HA2.out.2.trans (Fr.ofBelow hb3)
  have HI3 : Hid (IAt W3 ao d ∧ ∀ a, ao = some a → ¬ SB B Mp Mc Mn a.block) := ⟨hia, fun a ha hS => by have h1 := hag a ha; have h2 := HA2.out.1.lt hS; omega⟩
  obtain ⟨nd, hnd⟩ : ∃ nd, nd = d.length := ⟨_, rfl⟩
  have HNd := hidC hnd
  rw [← hnd]
  clear HPn hsd hpd hrow hb3 hia hag hnd HA2 c1 c2 f2
  obtain ⟨_, _, _, _, _, c5⟩ := HA3.out.cells
  obtain ⟨ms, clock, hm1, hm2, hm3, hm4⟩ := HA3.out.mn.ex
  have hrg := run_range_map (P := Tryz.prog) W3 86 43 99 Mn ms clock kdN.u hm1
  obtain ⟨W4, hW4⟩ : ∃ W4, W4 = W3.alloc (.mapIter (some Mn) clock #[] clock) := ⟨_, rfl⟩
  obtain ⟨r, hr⟩ : ∃ r, r = W3.heap.size := ⟨_, rfl⟩
  have HW4 : Hid (Below W3.heap.size W3 W4 ∧ W4.heap[r]? = some (.mapIter (some Mn) clock #[] clock) ∧ ¬ SB B Mp Mc Mn r ∧ w.heap.size ≤ r) := by
    refine ⟨by rw [hW4]; exact (Below.refl _ _).alloc (Nat.le_refl _) _, by rw [hW4, hr]; exact heap_alloc_new _ _ rfl, fun hS => ?_, by have := HF3.out.size; omega⟩
    have := HA3.out.lt hS
    omega
  have HMs := hidC (And.intro hm1 (And.intro hm2 (And.intro hm3 hm4)))
  clear hm1 hm2 hm3
  go_wp2_with fail
  rw [← hW4, ← hr]
  clear hW4 hr hrg
  go_loopg [5] ms.size (fun gk _ wr => ∃ (allc : List V4) (seen : Array Nat) (c0 : Nat), (leftOf ms seen).size ≤ gk ∧ Hid (wr.heap[r]? = some (.mapIter (some Mn) clock seen c0) ∧ clock ≤ c0 ∧ wr.heap[Mn]? = some (.map ms clock) ∧ BA wr B Mp Mc Mn cap latest latest pins allc nw ∧ CollR d all (fun k => ∃ x ∈ ms.toList, x.key = kv k ∧ seen.contains x.born = true) allc ∧ Fr (SB B Mp Mc Mn) w wr ∧ IAt wr ao d))
  case atStart =>
    have hb := HW4.out.1
    refine ⟨all, #[], clock, by unfold leftOf; exact Array.size_filter_le, HW4.out.2.1, Nat.le_refl _, (hb.block _ (blk_lt HMs.out.1)).trans HMs.out.1, HA3.out.kept hb, ?_, HF3.out.trans (Fr.ofBelow hb), HI3.out.1.fr (Fr.ofBelow (S := SB B Mp Mc Mn) hb) HI3.out.2⟩
    refine ⟨List.Sublist.refl _, fun k => ⟨?_, fun _ => rfl⟩⟩
    rintro ⟨x, _, _, hx⟩
    simp at hx
  case round =>
    obtain ⟨allc, seen, c0, hgk, HR⟩ := hrel
    rcases run_next_all wr r Mn clock c0 seen ms clock HR.out.1 HR.out.2.2.1 hm4 HR.out.2.1 with ⟨h0, hnx⟩ | ⟨x, hx, w5, hw5, hnx⟩
    · have HC2 := hidC (charge_any wr B Mp Mc Mn cap latest latest pins allc nw HR.out.2.2.2.1)
      have hsub := HR.out.2.2.2.2.1.1.length_le
      obtain ⟨nc, hnc⟩ : ∃ nc, nc = allc.length := ⟨_, rfl⟩
      rw [← hnc] at HC2 hsub
      have HF : Hid (CollPost w B Mp Mc Mn cap latest pins all nw (.returned (.int .i64 ((na : Int) - (nc : Int)))) wr) := by
        refine ⟨d, allc, HD.out.1, HD.out.2.1, HR.out.2.2.2.2.1.fin (fun v hv => ?_), by rw [HNa.out, hnc], HR.out.2.2.2.1, HR.out.2.2.2.2.2.1⟩
        have hk := (HA3.out.nwa v.1).2 ⟨v, hv, rfl⟩
        have h1 : (kv v.1, pv (nf f0 all v.1)) ∈ ms.toList.map (fun x => (x.key, x.val)) := by
          rw [HMs.out.2.1]
          exact List.mem_map.2 ⟨(v.1, pv (nf f0 all v.1)), List.mem_map.2 ⟨v.1, hk, rfl⟩, rfl⟩
        obtain ⟨x, hx, e⟩ := List.mem_map.1 h1
        refine ⟨x, hx, (Prod.mk.inj e).1, ?_⟩
        cases hc : seen.contains x.born with
        | true => rfl
        | false =>
          have h2 : x ∈ (leftOf ms seen).toList := by
            unfold leftOf
            rw [Array.mem_toList_iff, Array.mem_filter]
            exact ⟨Array.mem_toList_iff.1 hx, by rw [hc]; rfl⟩
          have h3 := List.length_pos_of_mem h2
          rw [Array.length_toList] at h3
          omega
      have hsw : wrap64 ((na : Int) - (nc : Int)) = (na : Int) - (nc : Int) := by have := HNa.out; unfold wrap64; omega
      clear HR hnc hsub hgk
      go_wp2_with fail
      refine HC2.out.mono ?_
      rintro e w6 ⟨rfl, hw6⟩
      have hw6' := hw6.symm
      subst hw6'
      clear hw6 HC2
      go_wp2
      go_ret
      have h9 := HF.out
      rw [← hsw] at h9
      exact h9
    · obtain ⟨hxm, hxs⟩ := mem_left hx
      have hshr := left_shrinks ms seen x hx
      have h1 : (x.key, x.val) ∈ (nw.map (fun k => (k, pv (nf f0 all k)))).map (fun e => (kv e.1, e.2)) := by rw [← HMs.out.2.1]; exact List.mem_map.2 ⟨x, hxm, rfl⟩
      obtain ⟨e0, he0, hex⟩ := List.mem_map.1 h1
      obtain ⟨k, hkn, rfl⟩ := List.mem_map.1 he0
      obtain ⟨hxk, hxv⟩ := Prod.mk.inj hex
      simp only at hxk hxv
      obtain ⟨X, u, Y, hal2, huk, hY⟩ := last_split allc ((HR.out.2.2.2.1.nwa k).1 hkn)
      subst huk
      obtain ⟨W5, hW5⟩ : ∃ W5, W5 = ChangeMaps.setBlock w5 r (.mapIter (some Mn) clock (seen.push x.born) clock) := ⟨_, rfl⟩
      rw [← hW5] at hnx
      have hw5s : w5.heap = wr.heap := by rcases hw5 with rfl | rfl <;> rfl
      have hfr5 : Fr (fun j => j = r) wr W5 := by
        rw [hW5]
        have hg := grown_setBlock w5 r (.mapIter (some Mn) clock (seen.push x.born) clock)
        rcases hw5 with rfl | rfl
        · exact Fr.ofGrown hg rfl
        · exact ⟨hg.os, hg.tape, hg.output, hg.size, fun k hk hn => hg.block k hk (fun e => by cases e; exact hn rfl)⟩
      have hr5 : W5.heap[r]? = some (.mapIter (some Mn) clock (seen.push x.born) clock) := by
        rw [hW5]
        exact setBlock_at _ (by rw [hw5s]; exact blk_lt HR.out.1)
      have hMr : Mn ≠ r := fun e => HW4.out.2.2.1 (e ▸ .inr (.inr (.inr rfl)))
      have hM5 : W5.heap[Mn]? = some (.map ms clock) := (hfr5.block Mn (blk_lt HR.out.2.2.1) hMr).trans HR.out.2.2.1
      have hen := run_entry_at (P := Tryz.prog) W5 r Mn clock seen ms clock x hr5 hM5 hxm HMs.out.2.2.1
      obtain ⟨U, hU⟩ : ∃ U, U = W5.alloc (.cells #[.int .i64 u.1.1, .int .i64 u.1.2] 43) := ⟨_, rfl⟩
      have hbU : Below W5.heap.size W5 U := by rw [hU]; exact (Below.refl _ _).alloc (Nat.le_refl _) _
      have hsame : ∀ j, j < wr.heap.size → j ≠ r → U.heap[j]? = wr.heap[j]? := fun j hj hn => (hbU.block j (Nat.lt_of_lt_of_le hj hfr5.size)).trans (hfr5.block j hj hn)
      have hba := HR.out.2.2.2.1
      rw [hal2] at hba
      have hbaU : BA U B Mp Mc Mn cap latest latest pins (X ++ u :: Y) nw := hba.same (fun j hj => hsame j (hba.lt hj) (fun e => HW4.out.2.2.1 (e ▸ hj)))
      have hiaU : IAt U ao d := fun i hi => by
        obtain ⟨g, off, e1, e2⟩ := HR.out.2.2.2.2.2.2 i hi
        refine ⟨g, off, e1, ?_⟩
        have hg := World.block_lt_of_cell? _ _ e2
        have : U.heap[g]? = wr.heap[g]? := hsame g hg (fun e => by
          subst e
          rw [World.cell?, HR.out.1] at e2
          cases e2)
        unfold World.cell? at e2 ⊢
        simp only at e2 ⊢
        rw [this]
        exact e2
      have HTh := hidC (thin_any U B Mp Mc Mn cap latest latest pins X Y u nw hbaU hY ao nd c d HNd.out hiaU HI3.out.2 HD.out.1 (by have := HD.out.2.2; have := HNd.out; omega))
      have HNext : Hid (∀ e w', ThinPost U B Mp Mc Mn cap latest latest pins nw (thinT d u.1 X u Y) e w' → (∃ x, e = .returned x) ∧ w'.heap[r]? = some (.mapIter (some Mn) clock (seen.push x.born) clock) ∧ clock ≤ clock ∧ w'.heap[Mn]? = some (.map ms clock) ∧ BA w' B Mp Mc Mn cap latest latest pins (thinT d u.1 X u Y) nw ∧ CollR d all (fun k => ∃ y ∈ ms.toList, y.key = kv k ∧ (seen.push x.born).contains y.born = true) (thinT d u.1 X u Y) ∧ Fr (SB B Mp Mc Mn) w w' ∧ IAt w' ao d) := by
        intro e w' hp
        obtain ⟨hp1, hp2, hp3, hp4⟩ := hp
        have hrU : r < U.heap.size := Nat.lt_of_lt_of_le (blk_lt hr5) hbU.size
        refine ⟨hp1, (hp3.block r hrU HW4.out.2.2.1).trans ((hbU.block r (blk_lt hr5)).trans hr5), Nat.le_refl _, hp4.trans ((hbU.block Mn (blk_lt hM5)).trans hM5), hp2, ?_, ?_, hiaU.fr hp3 HI3.out.2⟩
        · have hcr := HR.out.2.2.2.2.1
          rw [hal2] at hcr
          have hborn : ∀ y ∈ ms.toList, y.born = x.born → y = x := fun y hy hb => by
            have hn := HMs.out.2.2.1
            obtain ⟨A, C, hA⟩ := List.append_of_mem hxm
            rw [hA] at hn hy
            have hs := nodup_mid (f := fun x : MapEntry => x.born) hn
            rcases List.mem_append.1 hy with h | h
            · exact absurd hb (hs.1 y h)
            · rcases List.mem_cons.1 h with h | h
              · exact h
              · exact absurd hb (hs.2 y h)
          have hkey : ∀ y ∈ ms.toList, y.key = kv u.1 → y = x := fun y hy hk => by
            have hn : (ms.toList.map (fun x => x.key)).Nodup := by
              have e1 := congrArg (List.map Prod.fst) HMs.out.2.1
              simp only [List.map_map, Function.comp_def] at e1
              rw [e1]
              have hkn := HA3.out.mn.kn
              simp only [List.map_map, Function.comp_def, List.map_id'] at hkn
              exact List.Pairwise.map kv (fun a b hab e => hab (kv_inj e)) hkn
            obtain ⟨A, C, hA⟩ := List.append_of_mem hxm
            rw [hA] at hn hy
            have hs := nodup_mid (f := fun x : MapEntry => x.key) hn
            rcases List.mem_append.1 hy with h | h
            · exact absurd (hk.trans hxk) (hs.1 y h)
            · rcases List.mem_cons.1 h with h | h
              · exact h
              · exact absurd (hk.trans hxk) (hs.2 y h)
          have hst := hcr.step hY (by
            rintro ⟨y, hy, hk, hc⟩
            rw [hkey y hy hk, hxs] at hc
            cases hc)
          refine ⟨hst.1, fun k => ⟨fun hs => (hst.2 k).1 ?_, fun hn => (hst.2 k).2 (fun hs => hn ?_)⟩⟩
          · obtain ⟨y, hy, hk, hc⟩ := hs
            rw [contains_push] at hc
            rcases Bool.or_eq_true _ _ |>.mp hc with h | h
            · exact .inl ⟨y, hy, hk, h⟩
            · right
              have hyx := hborn y hy (by simpa using h)
              rw [hyx] at hk
              exact kv_inj (hk.symm.trans hxk.symm)
          · rcases hs with ⟨y, hy, hk, hc⟩ | hk
            · exact ⟨y, hy, hk, by rw [contains_push, hc]; rfl⟩
            · exact ⟨x, hxm, by rw [hk]; exact hxk.symm, by rw [contains_push]; simp⟩
        · have f1 : Fr (SB B Mp Mc Mn) w U := by
            have h2 := HR.out.2.2.2.2.2.1
            refine ⟨hbU.os.trans (hfr5.os.trans h2.os), hbU.tape.trans (hfr5.tape.trans h2.tape), hbU.output.trans (hfr5.output.trans h2.output), Nat.le_trans h2.size (Nat.le_trans hfr5.size hbU.size), fun j hj hn => (hsame j (Nat.lt_of_lt_of_le hj h2.size) (fun e => by have := HW4.out.2.2.2; omega)).trans (h2.block j hj hn)⟩
          exact f1.trans hp3
      rw [← hxk] at hnx hen
      rw [← hxv] at hnx hen
      have hyu : U.heap[W5.heap.size]? = some (.cells #[.int .i64 u.1.1, .int .i64 u.1.2] 43 (0, 0)) := by rw [hU]; exact heap_alloc_new _ _ rfl
      have hgk3 : (leftOf ms (seen.push x.born)).size < gk := by omega
      clear hxk hxv hx hxm hxs h1 hex he0 hkn hW5 hw5s hfr5 hr5 hM5 hMr hbU hsame hba hbaU hiaU hshr hgk hal2 HR hw5 hY hyu
      obtain ⟨T, hT⟩ : ∃ T, T = thinT d u.1 X u Y := ⟨_, rfl⟩
      rw [← hT] at HTh HNext
      clear hT
      generalize nf f0 all u.1 = pp at *
      obtain ⟨pp1, pp2⟩ := pp
      obtain ⟨⟨u1, u2⟩, u3, u4⟩ := u
      simp only [kv, pv] at hnx hen HTh
      simp only at hU
      go_wp2_with fail
      rw [← hU]
      clear hU hnx hen
      refine HTh.out.mono ?_
      intro e w6 hp
      obtain ⟨⟨xx, rfl⟩, hrest⟩ := HNext.out e w6 hp
      have HRest := hidC hrest
      clear hrest hp HNext HTh
      go_wp2
      go_roundg (leftOf ms (seen.push x.born)).size
      case measure => exact hgk3
      case rel => exact ⟨T, seen.push x.born, clock, Nat.le_refl _, HRest.out⟩
end Go.Proofs.YtbmohlkcmhhpgaaGreat
