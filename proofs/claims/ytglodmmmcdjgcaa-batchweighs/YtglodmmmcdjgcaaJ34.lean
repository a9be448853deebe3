import Derived.Test.YtglodmmmcdjgcaaJ24
import Derived.Test.YtglodmmmcdjgcaaJ11
/-
  apart: each list holds its own mark alone.
-/
namespace Go.Proofs.Ytglodmmmcdjgcaa.Kk
open Go.RowKit Go.Sort

set_option maxRecDepth 100000 in
set_option maxHeartbeats 4000000 in
theorem apart_any (w0 w : World) (B : Nat) (aB : Option Addr) (cB : Nat) (aK : Option Addr) (cK : Nat) (aI : Option Addr) (cI : Nat) (Bs Ks Is : List It) (h : SH w0 w B aB cB aK cK aI cI Bs Ks Is) :
    Calls Try.prog 13 #[.pointer (some ⟨B, 0, none⟩)] w fun e w' => e = .returned (.bool true) ∧ Below w0.heap.size w0 w' := by
  obtain ⟨nB, hB⟩ : ∃ n, n = Bs.length := ⟨_, rfl⟩
  obtain ⟨nK, hK⟩ : ∃ n, n = Ks.length := ⟨_, rfl⟩
  obtain ⟨nI, hI⟩ : ∃ n, n = Is.length := ⟨_, rfl⟩
  have HS : Hid (SH w0 w B aB cB aK cK aI cI Bs Ks Is) := h
  have HL : Hid (nB = Bs.length ∧ nK = Ks.length ∧ nI = Is.length) := ⟨hB, hK, hI⟩
  have hn : nB ≤ 64 ∧ nK ≤ 1000 ∧ nI ≤ 1000 := by have := h.n; omega
  clear h hB hK hI
  go_enter Try.func13, Try.ntmps13
  go_wp2_with fail
  refine (fill_any w0 w B aB cB aK cK aI cI Bs Ks Is nB nK nI HL.out.1 HL.out.2.1 HL.out.2.2 HS.out).mono ?_
  rintro e w1 ⟨rfl, hs1, hu1, hu2, hu3⟩
  have HS1 : Hid (SH w0 w1 B aB cB aK cK aI cI Bs Ks Is ∧ Up w1 2 patK Ks Ks.length ∧ Up w1 1 patI Is Is.length ∧ Up w1 4 patT Bs Bs.length) := ⟨hs1, hu1, hu2, hu3⟩
  clear hs1 hu1 hu2 hu3 HS
  go_wp2_with fail
  refine (grow_any w0 w1 B aB cB aK cK aI cI Bs Ks Is nB nK nI HL.out.1 HL.out.2.1 HL.out.2.2 HS1.out.1).mono ?_
  rintro e W ⟨rfl, hb2⟩
  have HS2 : Hid (SH w0 W B aB cB aK cK aI cI Bs Ks Is) := HS1.out.1.kept hb2
  have HLt : ∀ {T : TypeId} {sz : Nat} {L : List It}, (∀ x ∈ L, Rw w1 T sz w0.heap.size B x) → ∀ i' (h : i' < L.length), i' < L.length → ∀ g, L[i'].1 = some g → W.heap[g]? = w1.heap[g]? := fun {T sz L} hr i' hl _ g e => by
    have h1 := hr _ (List.getElem_mem hl)
    have h2 : L[i'] = (some g, L[i'].2) := Prod.ext e rfl
    rw [h2] at h1
    have h3 := h1.at.2.1
    have h4 := HS1.out.1.lt
    exact hb2.block g (by omega)
  have HK : Hid (Up W 2 patK Ks Ks.length) := HS1.out.2.1.other (HLt HS1.out.1.rK)
  have HI : Hid (Up W 1 patI Is Is.length) := HS1.out.2.2.1.other (HLt HS1.out.1.rI)
  have HT : Hid (Up W 4 patT Bs Bs.length) := HS1.out.2.2.2.other (HLt HS1.out.1.rB)
  clear HLt hb2 HS1
  have HQ : Hid (SH w0 W B aB cB aK cK aI cI Bs Ks Is ∧ Up W 2 patK Ks Ks.length ∧ Up W 1 patI Is Is.length ∧ Up W 4 patT Bs Bs.length) := ⟨HS2.out, HK.out, HI.out, HT.out⟩
  have HC : Hid (∀ W, SH w0 W B aB cB aK cK aI cI Bs Ks Is → W.cell? ⟨B, 0, none⟩ = some (.slice aB nB cB) ∧ W.cell? ⟨B, 1, none⟩ = some (.slice aK nK cK) ∧ W.cell? ⟨B, 2, none⟩ = some (.slice aI nI cI) ∧ W.cell? ⟨B, 3, none⟩ = some (.slice none 0 0) ∧ W.cell? ⟨B, 4, none⟩ = some (.slice none 0 0)) := fun W hW => by
    rw [HL.out.1, HL.out.2.1, HL.out.2.2]; exact hW.cells
  clear HS2 HK HI HT
  go_wp2_with fail
  go_loopw [3] (fun x wr => ∃ i : Nat, i ≤ nK ∧ x = .int .i64 (i : Int) ∧ Hid (SH w0 wr B aB cB aK cK aI cI Bs Ks Is ∧ Up wr 2 patK Ks Ks.length ∧ Up wr 1 patI Is Is.length ∧ Up wr 4 patT Bs Bs.length)) (fun x _ => nK - (intOf x).toNat)
  case atStart => exact ⟨0, Nat.zero_le _, rfl, HQ⟩
  case round =>
    clear HQ
    obtain ⟨i, hi, rfl, HQ⟩ := hrel
    obtain ⟨c0, c1, c2, c3, c4⟩ := HC.out wr HQ.out.1
    by_cases hlt : i < nK
    · have hil : i < Ks.length := by have := HL.out.2.1; omega
      obtain ⟨hg, ha, _⟩ := HQ.out.1.oK.el i hil
      have HEl : Hid (∀ W, SH w0 W B aB cB aK cK aI cI Bs Ks Is → W.cell? ⟨hg, i, none⟩ = some (itv Ks[i])) := fun W hW => by
        obtain ⟨hg', e, c⟩ := hW.oK.el i hil
        rw [ha] at e
        simp only [Option.some.injEq, Addr.mk.injEq, and_true] at e
        rw [← e] at c
        exact c
      have HRw : Hid (Rw wr 47 2 w0.heap.size B Ks[i]) := HQ.out.1.rK _ (List.getElem_mem hil)
      have hm64 : Ks[i].2 ≤ 64 := HQ.out.1.lK _ (List.getElem_mem hil)
      have HMk : Hid (∀ W, Up W 2 patK Ks Ks.length → ∀ g, Ks[i].1 = some g → Mrk W g 2 Ks[i].2 (patK i)) := fun W hu g e => hu i hil hil g e
      generalize Ks[i] = it at *
      rw [ha] at c1
      clear hil
      obtain ⟨og, m⟩ := it
      simp only at hm64 HMk
      obtain ⟨ao, hao⟩ : ∃ ao, itv (og, m) = .slice ao m m := ⟨_, rfl⟩
      have HAo : Hid (∀ g, og = some g → ao = some ⟨g, 0, none⟩) := fun g e => by subst e; rw [itv_some] at hao; simp at hao; exact hao.symm
      rw [hao] at HEl
      have HA : Hid (aK = some ⟨hg, 0, none⟩) := ha
      clear hao ha
      have ce := HEl.out wr HQ.out.1
      go_wp2_with fail
      clear c0 c1 c2 c3 c4 ce
      generalize wr = W at *
      go_loopw [4] (fun x wi => ∃ k : Nat, k ≤ m ∧ x = .int .i64 (k : Int) ∧ Hid (SH w0 wi B aB cB aK cK aI cI Bs Ks Is ∧ Up wi 2 patK Ks Ks.length ∧ Up wi 1 patI Is Is.length ∧ Up wi 4 patT Bs Bs.length)) (fun x _ => m - (intOf x).toNat)
      case atStart => exact ⟨0, Nat.zero_le _, rfl, HQ⟩
      case round =>
        clear HQ
        obtain ⟨k, hk, rfl, HQ⟩ := hrel
        obtain ⟨c0, c1, c2, c3, c4⟩ := HC.out wr HQ.out.1
        rw [HA.out] at c1
        have ce := HEl.out wr HQ.out.1
        by_cases hlt : k < m
        · cases og with
          | none => have := nat0 HRw.out; omega
          | some g =>
            have hao := HAo.out g rfl
            subst hao
            have e0 := (HMk.out wr HQ.out.2.1 g rfl) k hlt 0 _ rfl
            have e1 := (HMk.out wr HQ.out.2.1 g rfl) k hlt 1 _ rfl
            rw [Nat.add_zero] at e0
            have hq := run_neKey (-50 - (i : Int)) 0 (-50 - (i : Int)) 0
            have hgd := fun op x y => run_eqGuard op x y (-50 - (i : Int)) 0 (-50 - (i : Int)) 0
            simp only [decide_true, Bool.not_true] at hq
            go_wp2_with fail
            exact ⟨⟨k + 1, by omega, by go_num, HQ⟩, by simp [intOf]; omega⟩
        · obtain rfl : k = m := by omega
          go_wp2_with fail
          exact ⟨⟨i + 1, by omega, by go_num, HQ⟩, by simp [intOf]; omega⟩
    · obtain rfl : i = nK := by omega
      clear hlt
      go_wp2_with fail
      clear c0 c1 c2 c3 c4
      generalize wr = W at *
      go_loopw [5] (fun x wr => ∃ i : Nat, i ≤ nI ∧ x = .int .i64 (i : Int) ∧ Hid (SH w0 wr B aB cB aK cK aI cI Bs Ks Is ∧ Up wr 2 patK Ks Ks.length ∧ Up wr 1 patI Is Is.length ∧ Up wr 4 patT Bs Bs.length)) (fun x _ => nI - (intOf x).toNat)
      case atStart => exact ⟨0, Nat.zero_le _, rfl, HQ⟩
      case round =>
        clear HQ
        obtain ⟨i, hi, rfl, HQ⟩ := hrel
        obtain ⟨c0, c1, c2, c3, c4⟩ := HC.out wr HQ.out.1
        by_cases hlt : i < nI
        · have hil : i < Is.length := by have := HL.out.2.2; omega
          obtain ⟨hg, ha, _⟩ := HQ.out.1.oI.el i hil
          have HEl : Hid (∀ W, SH w0 W B aB cB aK cK aI cI Bs Ks Is → W.cell? ⟨hg, i, none⟩ = some (itv Is[i])) := fun W hW => by
            obtain ⟨hg', e, c⟩ := hW.oI.el i hil
            rw [ha] at e
            simp only [Option.some.injEq, Addr.mk.injEq, and_true] at e
            rw [← e] at c
            exact c
          have HRw : Hid (Rw wr 2 1 w0.heap.size B Is[i]) := HQ.out.1.rI _ (List.getElem_mem hil)
          have hm64 : Is[i].2 ≤ 64 := HQ.out.1.lI _ (List.getElem_mem hil)
          have HMk : Hid (∀ W, Up W 1 patI Is Is.length → ∀ g, Is[i].1 = some g → Mrk W g 1 Is[i].2 (patI i)) := fun W hu g e => hu i hil hil g e
          generalize Is[i] = it at *
          rw [ha] at c2
          clear hil
          obtain ⟨og, m⟩ := it
          simp only at hm64 HMk
          obtain ⟨ao, hao⟩ : ∃ ao, itv (og, m) = .slice ao m m := ⟨_, rfl⟩
          have HAo : Hid (∀ g, og = some g → ao = some ⟨g, 0, none⟩) := fun g e => by subst e; rw [itv_some] at hao; simp at hao; exact hao.symm
          rw [hao] at HEl
          have HA : Hid (aI = some ⟨hg, 0, none⟩) := ha
          clear hao ha
          have ce := HEl.out wr HQ.out.1
          go_wp2_with fail
          clear c0 c1 c2 c3 c4 ce
          generalize wr = W at *
          go_loopw [6] (fun x wi => ∃ k : Nat, k ≤ m ∧ x = .int .i64 (k : Int) ∧ Hid (SH w0 wi B aB cB aK cK aI cI Bs Ks Is ∧ Up wi 2 patK Ks Ks.length ∧ Up wi 1 patI Is Is.length ∧ Up wi 4 patT Bs Bs.length)) (fun x _ => m - (intOf x).toNat)
          case atStart => exact ⟨0, Nat.zero_le _, rfl, HQ⟩
          case round =>
            clear HQ
            obtain ⟨k, hk, rfl, HQ⟩ := hrel
            obtain ⟨c0, c1, c2, c3, c4⟩ := HC.out wr HQ.out.1
            rw [HA.out] at c2
            have ce := HEl.out wr HQ.out.1
            by_cases hlt : k < m
            · cases og with
              | none => have := nat0 HRw.out; omega
              | some g =>
                have hao := HAo.out g rfl
                subst hao
                have e0 := (HMk.out wr HQ.out.2.2.1 g rfl) k hlt 0 _ rfl
                rw [Nat.add_zero, Nat.mul_one] at e0
                go_wp2_with fail
                exact ⟨⟨k + 1, by omega, by go_num, HQ⟩, by simp [intOf]; omega⟩
            · obtain rfl : k = m := by omega
              go_wp2_with fail
              exact ⟨⟨i + 1, by omega, by go_num, HQ⟩, by simp [intOf]; omega⟩
        · obtain rfl : i = nI := by omega
          clear hlt
          go_wp2_with fail
          clear c0 c1 c2 c3 c4
          generalize wr = W at *
          go_loopw [7] (fun x wr => x = .int .i64 0 ∧ Hid (SH w0 wr B aB cB aK cK aI cI Bs Ks Is ∧ Up wr 2 patK Ks Ks.length ∧ Up wr 1 patI Is Is.length ∧ Up wr 4 patT Bs Bs.length)) (fun _ _ => 0)
          case atStart => exact ⟨rfl, HQ⟩
          case round =>
            clear HQ
            obtain ⟨rfl, HQ⟩ := hrel
            obtain ⟨c0, c1, c2, c3, c4⟩ := HC.out wr HQ.out.1
            go_wp2_with fail
            clear c0 c1 c2 c3 c4
            generalize wr = W at *
            go_loopw [9] (fun x wr => ∃ i : Nat, i ≤ nB ∧ x = .int .i64 (i : Int) ∧ Hid (SH w0 wr B aB cB aK cK aI cI Bs Ks Is ∧ Up wr 2 patK Ks Ks.length ∧ Up wr 1 patI Is Is.length ∧ Up wr 4 patT Bs Bs.length)) (fun x _ => nB - (intOf x).toNat)
            case atStart => exact ⟨0, Nat.zero_le _, rfl, HQ⟩
            case round =>
              clear HQ
              obtain ⟨i, hi, rfl, HQ⟩ := hrel
              obtain ⟨c0, c1, c2, c3, c4⟩ := HC.out wr HQ.out.1
              by_cases hlt : i < nB
              · have hil : i < Bs.length := by have := HL.out.1; omega
                obtain ⟨hg, ha, _⟩ := HQ.out.1.oB.el i hil
                have HEl : Hid (∀ W, SH w0 W B aB cB aK cK aI cI Bs Ks Is → W.cell? ⟨hg, i, none⟩ = some (itv Bs[i])) := fun W hW => by
                  obtain ⟨hg', e, c⟩ := hW.oB.el i hil
                  rw [ha] at e
                  simp only [Option.some.injEq, Addr.mk.injEq, and_true] at e
                  rw [← e] at c
                  exact c
                have HRw : Hid (Rw wr 43 4 w0.heap.size B Bs[i]) := HQ.out.1.rB _ (List.getElem_mem hil)
                have hm64 : Bs[i].2 ≤ 64 := HQ.out.1.lB _ (List.getElem_mem hil)
                have HMk : Hid (∀ W, Up W 4 patT Bs Bs.length → ∀ g, Bs[i].1 = some g → Mrk W g 4 Bs[i].2 (patT i)) := fun W hu g e => hu i hil hil g e
                generalize Bs[i] = it at *
                rw [ha] at c0
                clear hil
                obtain ⟨og, m⟩ := it
                simp only at hm64 HMk
                obtain ⟨ao, hao⟩ : ∃ ao, itv (og, m) = .slice ao m m := ⟨_, rfl⟩
                have HAo : Hid (∀ g, og = some g → ao = some ⟨g, 0, none⟩) := fun g e => by subst e; rw [itv_some] at hao; simp at hao; exact hao.symm
                rw [hao] at HEl
                have HA : Hid (aB = some ⟨hg, 0, none⟩) := ha
                clear hao ha
                have ce := HEl.out wr HQ.out.1
                go_wp2_with fail
                clear c0 c1 c2 c3 c4 ce
                generalize wr = W at *
                go_loopw [10] (fun x wi => ∃ k : Nat, k ≤ m ∧ x = .int .i64 (k : Int) ∧ Hid (SH w0 wi B aB cB aK cK aI cI Bs Ks Is ∧ Up wi 2 patK Ks Ks.length ∧ Up wi 1 patI Is Is.length ∧ Up wi 4 patT Bs Bs.length)) (fun x _ => m - (intOf x).toNat)
                case atStart => exact ⟨0, Nat.zero_le _, rfl, HQ⟩
                case round =>
                  clear HQ
                  obtain ⟨k, hk, rfl, HQ⟩ := hrel
                  obtain ⟨c0, c1, c2, c3, c4⟩ := HC.out wr HQ.out.1
                  rw [HA.out] at c0
                  have ce := HEl.out wr HQ.out.1
                  by_cases hlt : k < m
                  · cases og with
                    | none => have := nat0 HRw.out; omega
                    | some g =>
                      have hao := HAo.out g rfl
                      subst hao
                      have e0 := (HMk.out wr HQ.out.2.2.2 g rfl) k hlt 0 _ rfl
                      rw [Nat.add_zero] at e0
                      go_wp2_with fail
                      exact ⟨⟨k + 1, by omega, by go_num, HQ⟩, by simp [intOf]; omega⟩
                  · obtain rfl : k = m := by omega
                    go_wp2_with fail
                    exact ⟨⟨i + 1, by omega, by go_num, HQ⟩, by simp [intOf]; omega⟩
              · obtain rfl : i = nB := by omega
                clear hlt
                go_wp2_with fail
                clear c0 c1 c2 c3 c4
                generalize wr = W at *
                go_loopw [11] (fun x wr => x = .int .i64 0 ∧ Hid (SH w0 wr B aB cB aK cK aI cI Bs Ks Is ∧ Up wr 2 patK Ks Ks.length ∧ Up wr 1 patI Is Is.length ∧ Up wr 4 patT Bs Bs.length)) (fun _ _ => 0)
                case atStart => exact ⟨rfl, HQ⟩
                case round =>
                  clear HQ
                  obtain ⟨rfl, HQ⟩ := hrel
                  obtain ⟨c0, c1, c2, c3, c4⟩ := HC.out wr HQ.out.1
                  go_wp2
                  go_ret
                  exact ⟨rfl, HQ.out.1.bel⟩
end Go.Proofs.Ytglodmmmcdjgcaa.Kk
