/-
  THE WALK OF (*book).whole.
-/
import Derived.Test.YthdlilekilkogaaBook
import Derived.Deep.QuietTactic
namespace Go.Proofs.Ythdlilekilkogaa
open Go.RowKit

theorem Half.slice {w : World} {v : Value} {xs : List Value} {Xs : List (List Nat)} (h : Half w v xs Xs) : ∃ a c, v = .slice a xs.length c ∧ (xs.length ≠ 0 → ∃ g, a = some ⟨g, 0, none⟩) ∧ xs.length ≤ c ∧ c ≤ maxLen := by
  obtain ⟨_, ⟨rfl, h0⟩ | ⟨g, cap, cur, rfl, _, _, hn, hm, _⟩⟩ := h.row
  · exact ⟨none, 0, by rw [h0], fun h => absurd h0 h, by omega, Nat.zero_le _⟩
  · exact ⟨_, cap, rfl, fun _ => ⟨g, rfl⟩, hn, hm⟩
theorem Half.cell {w : World} {g n cap : Nat} {xs : List Value} {Xs : List (List Nat)} (h : Half w (.slice (some ⟨g, 0, none⟩) n cap) xs Xs) (i : Nat) (hi : i < xs.length) : w.cell? ⟨g, i, none⟩ = some (xs.getD i nilV) := by
  have hr := h.row
  have hn : n = xs.length := by
    obtain ⟨_, ⟨h1, _⟩ | ⟨g', cap', cur, e, _⟩⟩ := hr
    · cases h1
    · simp only [Value.slice.injEq] at e; exact e.2.1
  subst hn
  have e := World.ownsRow.cellAt hr i (by omega)
  rw [e, List.getD_eq_getElem?_getD, List.getElem?_eq_getElem hi]
  simp
theorem Half.frozen {w : World} {g n cap : Nat} {xs : List Value} {Xs : List (List Nat)} (h : Half w (.slice (some ⟨g, 0, none⟩) n cap) xs Xs) (i : Nat) : w.frozen? ⟨g, i, none⟩ = false := by
  obtain ⟨_, ⟨h1, _⟩ | ⟨g', cap', cur, e, _, hg, _⟩⟩ := h.row
  · cases h1
  · simp only [Value.slice.injEq, Option.some.injEq, Addr.mk.injEq] at e
    obtain ⟨⟨rfl, _⟩, _⟩ := e
    exact frozen_of_row w g i _ _ hg
theorem OwnB.len {w : World} {base : Nat} {v : Value} {L : List Nat} (h : OwnB w base v L) : L.length ≤ maxLen := by
  rcases h.shape with ⟨_, rfl⟩ | ⟨g, cap, _, _, _, h1, h2, _⟩
  · exact Nat.zero_le _
  · omega

set_option maxHeartbeats 1000000 in
theorem whole_any (w : World) (kb : Nat) (vl vw : Value) (ls ws : List Value) (Ls : List (List Nat)) (h : IsBook w kb vl vw ls ws Ls Ls) (hw : ws.length = ls.length) :
    Calls Try.prog 40 #[.pointer (some ⟨kb, 0, none⟩)] w fun e w' => e = .returned (.bool true) ∧ ∃ q, w' = w.drewN q := by
  have HB : Hid (IsBook w kb vl vw ls ws Ls Ls) := h
  have HWL : Hid (ws.length = ls.length) := hw
  obtain ⟨al, cl, hvl, hgl, hl1, hl2⟩ := h.hl.slice
  obtain ⟨aw, cw, hvw, hgw, hw1, hw2⟩ := h.hw.slice
  unfold maxLen at hl2 hw2
  subst hvl hvw
  have c0 := h.c0
  have c1 := h.c1
  rw [hw] at c1 hw1
  clear h hw
  go_enter Try.func40, Try.ntmps40
  go_wp2
  go_loopw [3] (fun x wr => ∃ (k q : Nat), k ≤ ls.length ∧ x = .int .i64 (k : Int) ∧ Hid (wr = w.drewN q)) (fun x _ => ls.length - (intOf x).toNat)
  case atStart => exact ⟨0, 0, Nat.zero_le _, rfl, rfl⟩
  case round =>
    obtain ⟨k, q, hk, rfl, HQ⟩ := hrel
    have d0 : wr.cell? ⟨kb, 0, none⟩ = some (.slice al ls.length cl) := by rw [HQ.out]; exact c0
    have d1 : wr.cell? ⟨kb, 1, none⟩ = some (.slice aw ls.length cw) := by rw [HQ.out]; exact c1
    by_cases hlt : k < ls.length
    · obtain ⟨gl, rfl⟩ := hgl (by omega)
      obtain ⟨gw, rfl⟩ := hgw (by rw [HWL.out]; omega)
      have e0 : wr.cell? ⟨gl, k, none⟩ = some (ls.getD k nilV) := by rw [HQ.out]; exact HB.out.hl.cell k hlt
      have e1 : wr.cell? ⟨gw, k, none⟩ = some (ws.getD k nilV) := by rw [HQ.out]; exact HB.out.hw.cell k (by rw [HWL.out]; exact hlt)
      obtain ⟨a1, p1, hv1, hb1, _, _⟩ := (HB.out.hl.own k hlt).slice
      obtain ⟨a2, p2, hv2, hb2, _, _⟩ := (HB.out.hw.own k (by rw [HWL.out]; exact hlt)).slice
      have HM : Hid ((Ls.getD k []).length ≤ maxLen) := (HB.out.hl.own k hlt).len
      rw [hv1] at e0
      rw [hv2] at e1
      have HB1 : Hid (BytesAt wr a1 (Ls.getD k [])) := by rw [HQ.out]; exact hb1
      have HB2 : Hid (BytesAt wr a2 (Ls.getD k [])) := by rw [HQ.out]; exact hb2
      clear hv1 hv2 hb1 hb2 c0 c1
      generalize Ls.getD k [] = L at *
      go_wp2
      go_quiet ((go_at_call 10; exact Calls.quiet_of (same_any _ _ _ _ _ _ _ L L rfl rfl (HB1.out.drewN _) (HB2.out.drewN _) HM.out)))
      have HQ2 : Hid (wr.drewN nq = w.drewN (q + nq)) := by rw [HQ.out, World.drewN_drewN]; rfl
      clear d0 d1 e0 e1
      go_wp2
      go_roundw
      case rel => exact ⟨k + 1, q + nq, by omega, by go_num, HQ2⟩
      case measure => simp [intOf]; omega
    · go_wp2
      go_ret
      exact ⟨rfl, q, HQ.out⟩

end Go.Proofs.Ythdlilekilkogaa
