/-
  Scan, THE CODE's AND THE DOCUMENT's; Seen.
-/
import Derived.Test.YtcpaonjidioclaaDoorJrRec
import Derived.Deep.QuietTactic
namespace Go.Proofs.YtcpaonjidioclaaDoor
open Go.RowKit

/-- the error that a scan tells, as the code has it -/
def ScanErr (w : World) (p : Nat) (code : Int) (v : Value) : Prop := (code = 0 ∧ v = .nilIface) ∨ (code ≠ 0 ∧ ∃ P, v = .iface 42 (.pointer (some ⟨P, 0, none⟩)) ∧ ByteErr w P (p : Int) code)
theorem ScanErr.kept {w w' : World} {p : Nat} {code : Int} {v : Value} (h : ScanErr w p code v) (hb : Below w.heap.size w w') : ScanErr w' p code v := by
  rcases h with h | ⟨h1, P, h2, h3⟩
  · exact .inl h
  · exact .inr ⟨h1, P, h2, h3.kept hb⟩
def ScanPost (w : World) (zs : List Nat) (e : Ending) (w' : World) : Prop :=
  ∃ v, e = .returned (.tuple #[.int .i64 (((scanN zs).1 : Nat) : Int), .int .i64 (((scanN zs).2.1 : Nat) : Int), v]) ∧ ScanErr w' (scanN zs).2.1 (scanN zs).2.2 v ∧ Below w.heap.size w w'

set_option maxRecDepth 100000 in
set_option maxHeartbeats 2000000 in
theorem scan_any (w : World) (ao : Option Addr) (cap n : Nat) (zs : List Nat) (hn : n = zs.length) (h : BytesAt w ao zs) (hm : n ≤ 140737488351232) (hcap : n ≤ cap) (hmax : cap ≤ maxLen) (hnil : ao = none → cap = 0) (ht : TabAt w) :
    Calls Tryd.prog 5 #[.slice ao n cap] w fun e w' => ScanPost w zs e w' := by
  have HN : Hid (n = zs.length) := hn
  have HA : Hid (BytesAt w ao zs) := h
  have HT : Hid (TabAt w) := ht
  have HM : Hid (cap ≤ maxLen) := hmax
  have HC : Hid (ao = none → cap = 0) := hnil
  clear hn h ht hmax hnil
  go_enter Tryd.func5, Tryd.ntmps5
  go_wp2_with fail
  go_loopw [5, 6, 7, 8] (fun i s _ _ wr => ∃ k p : Nat, i = .int .i64 k ∧ s = .int .i64 p ∧ Hid (ScanTo zs k p) ∧ Hid (Below w.heap.size w wr)) (fun _ s _ _ _ => n - (intOf s).toNat)
  case atStart => exact ⟨0, 0, rfl, rfl, ScanTo.start zs, Below.refl _ _⟩
  case round =>
    obtain ⟨k, p, rfl, rfl, hst, hbr⟩ := hrel
    have hpn : p ≤ n := by rw [HN.out]; exact hst.out.le
    have hkp : k ≤ p := hst.out.np
    by_cases hlt : p < n
    · have HR := hidJ (recordAt_any wr ao cap n (p : Int) zs HN.out (HA.out.kept hbr.out) hm hcap HM.out HC.out (HT.out.kept hbr.out))
      have hltz : Hid (p < zs.length) := by have := HN.out; exact (show p < zs.length by omega)
      go_wp2_with fail
      refine HR.out.mono ?_
      rintro e w1 ⟨hb1, ⟨hz, v1, rfl, ho1⟩ | ⟨hz, P, rfl, hP, hbe⟩⟩
      · obtain ⟨q, hq, hpq, hql, hsn⟩ := hst.out.next hltz.out hz
        have hqn : q ≤ n := by rw [HN.out]; exact hql
        rw [hq]
        obtain ⟨la, lc, hv, _⟩ := ho1.slice
        subst hv
        have HS : Hid (ScanTo zs (k + 1) q) := hsn
        have HB1 : Hid (Below w.heap.size w w1) := hbr.out.trans (hb1.mono hbr.out.size)
        clear hz hq hsn hst hbr HR hb1 ho1 hql hltz
        generalize (Rec.opened zs (p : Int)).1 = kk at *
        generalize (Rec.opened zs (p : Int)).2.1 = ld at *
        have HB2 : Hid (∀ t, Below w.heap.size w ((w1.alloc (.cells #[.int .u8 (kk : Int), .slice la ld.length lc, .int .i64 (q : Int)] 36)).drewN t)) := fun t => below_drewN (HB1.out.alloc HB1.out.size _) t
        go_wp2_with fail
        go_quiet (fail)
        go_wp2_with fail
        go_roundw
        case rel => exact ⟨k + 1, q, by go_num, rfl, HS, HB2.out _⟩
        case measure => simp [intOf]; omega
      · have HE : Hid (ScanPost w zs (.returned (.tuple #[.int .i64 (k : Int), .int .i64 (p : Int), .iface 42 (.pointer (some ⟨P, 0, none⟩))])) (w1.alloc (.cells #[.int .u8 0, .slice none 0 0, .int .i64 0] 36))) := by
          have hs := hst.out.stop hltz.out hz
          have hb2 : Below w1.heap.size w1 (w1.alloc (.cells #[.int .u8 0, .slice none 0 0, .int .i64 0] 36)) := (Below.refl _ _).alloc (Nat.le_refl _) _
          refine ⟨_, by rw [hs], ?_, ?_⟩
          · rw [hs]; exact .inr ⟨hz, P, rfl, hbe.kept hb2⟩
          · exact (hbr.out.trans (hb1.mono hbr.out.size)).trans (hb2.mono (Nat.le_trans hbr.out.size hb1.size))
        clear hz hst hbr HR hb1 hbe hltz hP
        go_wp2_with fail
        refine bodyPost_ret (v := .tuple #[.int .i64 (k : Int), .int .i64 (p : Int), .iface 42 (.pointer (some ⟨P, 0, none⟩))]) (by simp [results, Tryd.results5, go_sem]) rfl ?_
        exact HE.out
    · have HE : Hid (ScanPost w zs (.returned (.tuple #[.int .i64 (k : Int), .int .i64 (p : Int), .nilIface])) wr) := by
        have hs := hst.out.whole (show ¬ p < zs.length by rw [← HN.out]; exact hlt)
        refine ⟨_, by rw [hs], ?_, hbr.out⟩
        rw [hs]; exact .inl ⟨rfl, rfl⟩
      clear hst hbr
      go_wp2_with fail
      refine bodyPost_ret (v := .tuple #[.int .i64 (k : Int), .int .i64 (p : Int), .nilIface]) (by simp [results, Tryd.results5, go_sem]) rfl ?_
      exact HE.out

end Go.Proofs.YtcpaonjidioclaaDoor
