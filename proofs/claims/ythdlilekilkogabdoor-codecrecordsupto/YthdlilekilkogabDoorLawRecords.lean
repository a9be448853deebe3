/-
  THE WALK OF CodecRecords.
-/
import Derived.Test.YthdlilekilkogabDoorSeal
import Derived.Test.YthdlilekilkogabDoorUnsealAny
import Derived.Test.YthdlilekilkogabDoorSame
import Derived.Test.YthdlilekilkogabDoorRecRead
import Derived.Test.YthdlilekilkogabDoorLists
namespace Go.Proofs.YthdlilekilkogabDoor
open Go.RowKit

def endsTo (ls : List (List Nat)) (kind k : Nat) : List Nat := (List.range k).map fun j => (Rec.allTo ls kind (j + 1)).length
theorem endsTo_succ (ls : List (List Nat)) (kind k : Nat) : endsTo ls kind (k + 1) = endsTo ls kind k ++ [(Rec.allTo ls kind (k + 1)).length] := by
  unfold endsTo; rw [List.range_succ, List.map_append]; rfl
theorem endsTo_length (ls : List (List Nat)) (kind k : Nat) : (endsTo ls kind k).length = k := by simp [endsTo]
theorem endsTo_at (ls : List (List Nat)) (kind k j : Nat) (h : j < k) : (endsTo ls kind k).getD j 0 = (Rec.allTo ls kind (j + 1)).length := by
  simp [endsTo, List.getD_eq_getElem?_getD, h]
theorem kind_of (kind k : Nat) : ((kind : Int) + (k : Int)) % 256 = (((kind + k) % 256 : Nat) : Int) := by omega

theorem place_of' (a : Int) (n : Nat) (hn : n + 1 ≤ 281474976710656) : ∃ p : Nat, p ≤ n ∧ wrap64 ((IntKind.u64.wrap a).tmod ((n : Int) + 1)) = (p : Int) := by
  have h1 := wrap_u64_nonneg a
  generalize IntKind.u64.wrap a = x at *
  have h2 : x.tmod ((n : Int) + 1) = x % ((n : Int) + 1) := Int.tmod_eq_emod_of_nonneg h1
  have h3 := Int.emod_nonneg x (show ((n : Int) + 1) ≠ 0 by omega)
  have h4 := Int.emod_lt_of_pos x (show (0 : Int) < (n : Int) + 1 by omega)
  rw [h2]
  generalize x % ((n : Int) + 1) = y at *
  refine ⟨y.toNat, by omega, ?_⟩
  rw [IntWalk.wrap64_in y ⟨by omega, by omega⟩]
  omega

set_option maxRecDepth 100000 in
set_option maxHeartbeats 1000000 in
theorem records_walk (w : World) (b off cap kind : Nat) (cut : Int) (ls : List (List Nat)) (h : ListsAt w b off ls) (hN : ls.length ≤ 1048576) (ht : TabAt w) (htot : Rec.total ls ≤ 1048576) :
    Calls Tryd.prog 4 #[.slice (some ⟨b, off, none⟩) ls.length cap, .int .u8 (kind : Int), .int .i64 cut] w fun e w' => e = .returned (.bool true) ∧ Below w.heap.size w w' := by
  have HA : Hid (ListsAt w b off ls) := h
  have HT : Hid (TabAt w) := ht
  clear h ht
  go_enter Tryd.func4, Tryd.ntmps4
  go_wp2
  go_loopw [7, 8, 9] (fun v7 v8 i wr => ∃ k : Nat, k ≤ ls.length ∧ i = .int .i64 k ∧ Hid (OwnB wr w.heap.size v7 (Rec.allTo ls kind k)) ∧ Hid (OwnI wr w.heap.size v8 (endsTo ls kind k)) ∧ Hid (Below w.heap.size w wr) ∧ Hid (∀ j, j < k → (ls.getD j []).length ≤ 16777216))
    (fun _ _ i _ => ls.length - (intOf i).toNat)
  case atStart => exact ⟨0, Nat.zero_le _, rfl, OwnB.nil _ _, OwnI.nil _ _, Below.refl _ _, fun j hj => by omega⟩
  case round =>
    obtain ⟨k, hkN, rfl, ho7, ho8, hbel, hall⟩ := hrel
    by_cases hlt : k < ls.length
    · obtain ⟨a, c, hcell, hba, hnil⟩ := (HA.out.kept hbel.out) k hlt
      have HBA : Hid (BytesAt wr a (ls.getD k [])) := hba
      have HNL : Hid (a = none → c = 0) := hnil
      have HTr : Hid (TabAt wr) := HT.out.kept hbel.out
      have hbnd := Rec.total_bound ls kind (k + 1) (by omega) _ htot
      clear hba hnil
      have HZ : Hid (Rec.allTo ls kind (k + 1) = Rec.allTo ls kind k ++ Rec.sealed ((kind + k) % 256) (ls.getD k [])) := rfl
      generalize hzs : ls.getD k [] = zs at *
      have HZS : Hid (ls.getD k [] = zs) := hzs
      clear hzs
      by_cases hg : 16777216 < zs.length
      · have hg' : (16777216 : Int) < (zs.length : Int) := by omega
        go_wp2
        go_ret
        exact ⟨rfl, hbel.out⟩
      · have hg' : ¬ (16777216 : Int) < (zs.length : Int) := by omega
        go_wp2_with fail
        rw [kind_of]
        have hkl : (kind + k) % 256 < 256 := by omega
        refine (seal_any wr a c zs.length ((kind + k) % 256) zs rfl HBA.out HNL.out hkl (by omega) HTr.out).mono ?_
        generalize (kind + k) % 256 = kk at *
        rintro e w2 ⟨v2, rfl, hown2, hbel2⟩
        have hlen : (Rec.sealed kk zs).length = zs.length + 13 := Rec.sealed_length kk zs
        rcases hown2.shape with ⟨_, h0⟩ | ⟨g, cap2, rfl, hg1, hg2, hc2, hm2, hb2⟩
        · rw [h0] at hlen; simp at hlen
        have HS2 : Hid (BytesAt w2 (some ⟨g, 0, none⟩) (Rec.sealed kk zs)) := hb2
        have HLn : Hid ((Rec.sealed kk zs).length = zs.length + 13) := hlen
        rw [hlen]
        have HB2 : Hid (Below w.heap.size w w2) := hbel.out.trans (hbel2.mono hbel.out.size)
        have HO7 : Hid (OwnB w2 w.heap.size u7 (Rec.allTo ls kind k)) := ho7.out.kept hbel2
        have HO8 : Hid (OwnI w2 w.heap.size u8 (endsTo ls kind k)) := ho8.out.kept hbel2
        have hc2' := (hbel2.cell (p := ⟨b, off + k, none⟩) (World.block_lt_of_cell? wr _ hcell)).trans hcell
        clear hown2 hbel2 hlen hb2 hg1 hg2 ho7 ho8 hc2 hm2 hcell
        have hne : (((zs.length : Int) + 13) != ((zs.length : Int) + 13)) = false := by simp
        have HA0 : Hid (u8.ownBlock = none ∨ u8.ownBlock ≠ u7.ownBlock) := own_apart' HO7.out HO8.out
        have hE : (endsTo ls kind k).length + 1 ≤ 17592186044416 := by rw [endsTo_length]; omega
        have HK7 := ownBlock_lt HO7.out
        have HK7' : Hid (∀ k, u7.ownBlock = some k → w.heap.size ≤ k) := HK7
        have HK8' : Hid (∀ k, u8.ownBlock = some k → w.heap.size ≤ k) := ownBlockI HO8.out
        clear HK7
        go_wp2_with (first | (at_builtin; refine wpList_append_bytes rfl (.tmp 52) (.tmp 53) rfl w.heap.size u7 (Rec.allTo ls kind k) rfl HO7.out _ _ _ (Rec.sealed kk zs) rfl HLn.out.symm HS2.out (by simp) (by rw [HZ.out, List.length_append] at hbnd; omega) HB2.out.size ?_; intro v7 w3 hown3 hgrow3; rw [← HZ.out] at hown3; obtain ⟨a7, c7, rfl, hb7, hn7, hl7⟩ := hown3.slice; have HO73 : Hid (OwnB w3 w.heap.size (.slice a7 (Rec.allTo ls kind (k + 1)).length c7) (Rec.allTo ls kind (k + 1))) := hown3; have HO83 : Hid (OwnI w3 w.heap.size u8 (endsTo ls kind k)) := HO8.out.grown hgrow3 HA0.out; have HB3 : Hid (Below w.heap.size w w3) := HB2.out.grown hgrow3 HB2.out.size HK7'.out; clear hown3 hgrow3 hb7 hn7 hl7) | (at_builtin; refine wpList_append_int rfl (.tmp 55) (.tmp 58) rfl w.heap.size u8 (endsTo ls kind k) rfl (HO83.out.alloc _) _ (Rec.allTo ls kind (k + 1)).length rfl (int_src _ _ _ rfl) hE (by have := HB3.out.size; simp; omega) ?_; intro v8 w4 hown4 hgrow4; rw [← endsTo_succ] at hown4; have HO84 : Hid (OwnI w4 w.heap.size v8 (endsTo ls kind (k + 1))) := hown4; have HO74 : Hid (OwnB w4 w.heap.size (.slice a7 (Rec.allTo ls kind (k + 1)).length c7) (Rec.allTo ls kind (k + 1))) := (HO73.out.alloc _).grown hgrow4 (own_apart HO73.out HO83.out); have HB4 : Hid (Below w.heap.size w w4) := (HB3.out.alloc HB3.out.size _).grown hgrow4 (by have := HB3.out.size; simp; omega) HK8'.out; clear hown4 hgrow4))
        go_roundw
        case rel => exact ⟨k + 1, by omega, by go_num, ‹Hid (OwnB _ w.heap.size _ (Rec.allTo ls kind (k + 1)))›, ‹Hid (OwnI _ w.heap.size _ (endsTo ls kind (k + 1)))›, ‹Hid (Below w.heap.size w _)›, fun j hj => by
          by_cases e : j = k
          · rw [e, HZS.out]; omega
          · exact hall.out j (by omega)⟩
        case measure => simp [intOf]; omega
    · obtain rfl : k = ls.length := by omega
      clear hlt hkN
      generalize wr = W1 at *
      have hbnd := Rec.total_bound ls kind ls.length (Nat.le_refl _) _ htot
      obtain ⟨n, hnl, hne⟩ := place_of' cut ((Rec.allTo ls kind ls.length).length) (by omega)
      rcases ho7.out.shape with ⟨hv7, h0⟩ | ⟨g, c7, hv7, hg1, hg2, hl7, hcm, hb7⟩
      · subst hv7
        have hls : ls = [] := by
          cases ls with
          | nil => rfl
          | cons l ls => have := congrArg List.length h0; rw [List.length_cons, Rec.allTo_succ_length] at this; simp at this
        subst hls
        have hne' : wrap64 ((IntKind.u64.wrap cut).tmod 1) = 0 := by
          have e : n = 0 := by simpa [Rec.allTo] using hnl
          rw [e] at hne
          simpa [Rec.allTo] using hne
        have HTr : Hid (TabAt W1) := HT.out.kept hbel.out
        clear hne hnl h0 hbnd
        go_wp2_with fail
        go_loopw [12, 13] (fun at_ i wr => i = .int .i64 0 ∧ at_ = .int .i64 0 ∧ wr = W1) (fun _ i _ => 0 - (intOf i).toNat)
        case atStart => exact ⟨rfl, rfl, rfl⟩
        case round =>
          obtain ⟨rfl, rfl, rfl⟩ := hrel
          go_wp2_with fail
          refine (unseal_any _ _ 0 0 0 [] rfl ⟨by simp, .inl rfl⟩ (by omega) (by omega) (by simp [maxLen]) (fun _ => rfl) HTr.out).mono ?_
          rw [show Rec.opened [] 0 = (0, [], 0, 10) from Rec.opened_end [] 0 rfl]
          rintro e w6 ⟨v6, rfl, hown6, hbel6⟩
          have HB6 : Hid (Below w.heap.size w w6) := hbel.out.trans (hbel6.mono hbel.out.size)
          clear hown6 hbel6
          go_wp2
          go_ret
          exact ⟨rfl, HB6.out⟩
      · subst hv7
        rcases ho8.out.shape with ⟨hv8, h8⟩ | ⟨g8, c8, hv8, _, hc8⟩
        · have hls : ls = [] := by have := congrArg List.length h8; rw [endsTo_length] at this; exact List.eq_nil_of_length_eq_zero this
          subst hls
          have hne' : wrap64 ((IntKind.u64.wrap cut).tmod 1) = 0 := by
            have e : n = 0 := by simpa [Rec.allTo] using hnl
            rw [e] at hne
            simpa [Rec.allTo] using hne
          have HTr : Hid (TabAt W1) := HT.out.kept hbel.out
          have hcm' : c7 ≤ 9223372036854775807 := by unfold maxLen at hcm; omega
          clear hne hnl h8 hbnd hb7 hl7
          rw [show (Rec.allTo [] kind [].length).length = 0 from rfl]
          go_wp2_with fail
          go_loopw [12, 13] (fun at_ i wr => i = .int .i64 0 ∧ at_ = .int .i64 0 ∧ wr = W1) (fun _ i _ => 0 - (intOf i).toNat)
          case atStart => exact ⟨rfl, rfl, rfl⟩
          case round =>
            obtain ⟨rfl, rfl, rfl⟩ := hrel
            go_wp2_with fail
            refine (unseal_any _ _ c7 0 0 [] rfl ⟨by simp, .inl rfl⟩ (by omega) (by omega) hcm (by simp) HTr.out).mono ?_
            rw [show Rec.opened [] 0 = (0, [], 0, 10) from Rec.opened_end [] 0 rfl]
            rintro e w6 ⟨v6, rfl, hown6, hbel6⟩
            have HB6 : Hid (Below w.heap.size w w6) := hbel.out.trans (hbel6.mono hbel.out.size)
            clear hown6 hbel6
            go_wp2
            go_ret
            exact ⟨rfl, HB6.out⟩
        · subst hv8
          rw [endsTo_length] at hc8 ⊢
          have HC8 : Hid (∀ j, j < ls.length → W1.cell? ⟨g8, j, none⟩ = some (.int .i64 (((Rec.allTo ls kind (j + 1)).length : Nat) : Int))) := fun j hj => by rw [hc8 j hj, endsTo_at _ _ _ _ hj]
          have HS7 : Hid (BytesAt W1 (some ⟨g, 0, none⟩) (Rec.allTo ls kind ls.length)) := hb7
          have HLA : Hid (ListsAt W1 b off ls) := HA.out.kept hbel.out
          have HTr : Hid (TabAt W1) := HT.out.kept hbel.out
          have HNL : Hid (n ≤ (Rec.allTo ls kind ls.length).length) := hnl
          have hcm' : c7 ≤ 9223372036854775807 := by unfold maxLen at hcm; omega
          clear hb7 hc8 hnl
          generalize hM : (Rec.allTo ls kind ls.length).length = M at *
          have HM : Hid ((Rec.allTo ls kind ls.length).length = M) := hM
          have hnM : n ≤ M := HNL.out
          clear hM
          go_wp2_with fail
          rw [hne]
          go_loopw [12, 13, 14, 15, 16, 17] (fun at_ i _ _ _ _ wr => ∃ k : Nat, k ≤ ls.length ∧ i = .int .i64 k ∧ at_ = .int .i64 (((Rec.allTo ls kind k).length : Nat) : Int) ∧ (Rec.allTo ls kind k).length ≤ n ∧ Hid (Below W1.heap.size W1 wr))
            (fun _ i _ _ _ _ _ => ls.length - (intOf i).toNat)
          case atStart => exact ⟨0, Nat.zero_le _, rfl, rfl, Nat.zero_le _, Below.refl _ _⟩
          case round =>
            obtain ⟨k, hkN, rfl, rfl, hat, hbx⟩ := hrel
            clear hne
            have HSx : Hid (BytesAt wr (some ⟨g, 0, none⟩) ((Rec.allTo ls kind ls.length).take n)) := (HS7.out.kept hbx.out).take n
            have HLn : Hid (n = ((Rec.allTo ls kind ls.length).take n).length) := by rw [Hid, List.length_take, HM.out]; omega
            have HTx : Hid (TabAt wr) := HTr.out.kept hbx.out
            have HBx : Hid (Below w.heap.size w wr) := hbel.out.trans (hbx.out.mono hbel.out.size)
            by_cases hlt : k < ls.length
            · have hLk : (ls.getD k []).length ≤ 16777216 := hall.out k hlt
              have hc8 : wr.cell? ⟨g8, k, none⟩ = some (.int .i64 (((Rec.allTo ls kind (k + 1)).length : Nat) : Int)) := by
                have h1 := HC8.out k hlt
                exact (hbx.out.cell (p := ⟨g8, k, none⟩) (World.block_lt_of_cell? W1 _ h1)).trans h1
              have hsu := Rec.allTo_succ_length ls kind k
              have hmo := Rec.allTo_mono ls kind (i := k + 1) (j := ls.length) (by omega)
              rw [HM.out] at hmo
              by_cases hin : (Rec.allTo ls kind (k + 1)).length ≤ n
              · have HOP : Hid (Rec.opened ((Rec.allTo ls kind ls.length).take n) (((Rec.allTo ls kind k).length : Nat) : Int) = ((kind + k) % 256, ls.getD k [], (((Rec.allTo ls kind (k + 1)).length : Nat) : Int), 0)) := Rec.read_in ls kind k ls.length n hlt hLk (by rw [HM.out]; exact hnM) hin
                obtain ⟨al, cl, hcl, hbl, hnl⟩ := (HLA.out.kept hbx.out) k hlt
                have HBL : Hid (BytesAt wr al (ls.getD k [])) := hbl
                have hkind := kind_of kind k
                have hin' : ¬ (n : Int) < (((Rec.allTo ls kind (k + 1)).length : Nat) : Int) := by omega
                generalize hE : (Rec.allTo ls kind (k + 1)).length = E at *
                generalize hA' : (Rec.allTo ls kind k).length = A at *
                have HE : Hid ((Rec.allTo ls kind (k + 1)).length = E) := hE
                clear hE hA' hsu hbl
                generalize hzs : ls.getD k [] = zs at *
                clear hzs
                generalize hall' : (Rec.allTo ls kind ls.length).take n = P at *
                clear hall'
                go_wp2_with fail
                refine (unseal_any wr _ c7 n _ P HLn.out HSx.out (by omega) (by omega) hcm (by simp) HTx.out).mono ?_
                rw [HOP.out]
                rintro e w6 ⟨v6, rfl, hown6, hbel6⟩
                have HB6 : Hid (Below W1.heap.size W1 w6) := hbx.out.trans (hbel6.mono hbx.out.size)
                have HBL6 : Hid (BytesAt w6 al zs) := HBL.out.kept hbel6
                have hc86 := (hbel6.cell (p := ⟨g8, k, none⟩) (World.block_lt_of_cell? wr _ hc8)).trans hc8
                have hcl6 := (hbel6.cell (p := ⟨b, off + k, none⟩) (World.block_lt_of_cell? wr _ hcl)).trans hcl
                obtain ⟨a6, c6, hv6, hb6, hn6, hl6⟩ := hown6.slice
                simp only at hv6
                subst hv6
                have HB6' : Hid (BytesAt w6 a6 zs) := hb6
                clear hown6 hbel6 hb6 hn6 hl6 hc8 hcl HBL
                simp only
                have hk1 : ((((kind + k) % 256 : Nat) : Int) != (((kind + k) % 256 : Nat) : Int)) = false := by simp
                have hk2 : (((E : Nat) : Int) != ((E : Nat) : Int)) = false := by simp
                generalize (kind + k) % 256 = kk at *
                go_wp2_with fail
                refine (same_any w6 a6 al c6 cl zs.length zs.length zs zs rfl rfl HB6'.out HBL6.out (by unfold maxLen; omega)).mono ?_
                rintro e w7 ⟨rfl, q, hq⟩
                have HB7 : Hid (Below W1.heap.size W1 w7) := by rw [hq]; exact below_drewN HB6.out q
                have hc87 : w7.cell? ⟨g8, k, none⟩ = some (.int .i64 (E : Int)) := by rw [hq]; exact hc86
                clear hq HB6
                rw [show decide (zs = zs) = true from by simp]
                go_wp2
                go_roundw
                case rel => exact ⟨k + 1, by omega, by go_num, by rw [HE.out], by rw [HE.out]; exact hin, HB7⟩
                case measure => simp [intOf]; omega
              · have HOP : Hid (Rec.opened ((Rec.allTo ls kind ls.length).take n) (((Rec.allTo ls kind k).length : Nat) : Int) = (0, [], 0, 10)) := Rec.read_torn ls kind k ls.length n hlt hLk (by rw [HM.out]; exact hnM) hat (by omega)
                have hin' : (n : Int) < (((Rec.allTo ls kind (k + 1)).length : Nat) : Int) := by omega
                generalize (Rec.allTo ls kind (k + 1)).length = E at *
                generalize hA' : (Rec.allTo ls kind k).length = A at *
                clear hA' hsu
                generalize hall' : (Rec.allTo ls kind ls.length).take n = P at *
                clear hall'
                go_wp2_with fail
                refine (unseal_any wr _ c7 n _ P HLn.out HSx.out (by omega) (by omega) hcm (by simp) HTx.out).mono ?_
                rw [HOP.out]
                rintro e w6 ⟨v6, rfl, hown6, hbel6⟩
                have HB6 : Hid (Below w.heap.size w w6) := HBx.out.trans (hbel6.mono HBx.out.size)
                have hc86 := (hbel6.cell (p := ⟨g8, k, none⟩) (World.block_lt_of_cell? wr _ hc8)).trans hc8
                obtain ⟨a6, c6, hv6, hb6, hn6, hl6⟩ := hown6.slice
                simp only at hv6
                subst hv6
                clear hown6 hbel6 hb6 hn6 hl6 hc8
                simp only
                go_wp2
                go_ret
                exact ⟨rfl, HB6.out⟩
            · obtain rfl : k = ls.length := by omega
              have e : n = M := by rw [HM.out] at hat; omega
              have HOP : Hid (Rec.opened ((Rec.allTo ls kind ls.length).take n) (((Rec.allTo ls kind ls.length).length : Nat) : Int) = (0, [], 0, 10)) := Rec.opened_end _ _ (by rw [List.length_take, HM.out]; omega)
              rw [HM.out] at HOP ⊢
              generalize hall' : (Rec.allTo ls kind ls.length).take n = P at *
              clear hall' e
              go_wp2_with fail
              refine (unseal_any wr _ c7 n _ P HLn.out HSx.out (by omega) (by omega) hcm (by simp) HTx.out).mono ?_
              rw [HOP.out]
              rintro e w6 ⟨v6, rfl, hown6, hbel6⟩
              have HB6 : Hid (Below w.heap.size w w6) := HBx.out.trans (hbel6.mono HBx.out.size)
              clear hown6 hbel6
              simp only
              go_wp2
              go_ret
              exact ⟨rfl, HB6.out⟩

set_option maxHeartbeats 400000 in
/-- no record at all -/
theorem records_none (w : World) (lo : Option Addr) (cap kind : Nat) (cut : Int) (ht : TabAt w) :
    Calls Tryd.prog 4 #[.slice lo 0 cap, .int .u8 (kind : Int), .int .i64 cut] w fun e w' => e = .returned (.bool true) ∧ Below w.heap.size w w' := by
  have HT : Hid (TabAt w) := ht
  obtain ⟨n, hnl, hne⟩ := place_of' cut 0 (by omega)
  have hne' : wrap64 ((IntKind.u64.wrap cut).tmod 1) = 0 := by
    have e : n = 0 := by omega
    rw [e] at hne
    simpa using hne
  clear ht hnl hne
  go_enter Tryd.func4, Tryd.ntmps4
  go_wp2
  go_loop [7, 8, 9] (fun v7 v8 i => v7 = .slice none 0 0 ∧ v8 = .slice none 0 0 ∧ i = .int .i64 0) (fun _ _ i => 0 - (intOf i).toNat)
  case atStart => exact ⟨rfl, rfl, rfl⟩
  case round =>
    obtain ⟨rfl, rfl, rfl⟩ := hrel
    go_wp2_with fail
    go_loop [12, 13] (fun at_ i => i = .int .i64 0 ∧ at_ = .int .i64 0) (fun _ i => 0 - (intOf i).toNat)
    case atStart => exact ⟨rfl, rfl⟩
    case round =>
      obtain ⟨rfl, rfl⟩ := hrel
      go_wp2_with fail
      refine (unseal_any _ _ 0 0 0 [] rfl ⟨by simp, .inl rfl⟩ (by omega) (by omega) (by simp [maxLen]) (fun _ => rfl) HT.out).mono ?_
      rw [show Rec.opened [] 0 = (0, [], 0, 10) from Rec.opened_end [] 0 rfl]
      rintro e w6 ⟨v6, rfl, hown6, hbel6⟩
      clear hown6
      go_wp2
      go_ret
      exact ⟨rfl, hbel6⟩

theorem total_len : ∀ ls : List (List Nat), ls.length ≤ Rec.total ls
  | [] => by simp
  | l :: ls => by have := total_len ls; simp only [Rec.total, List.length_cons]; omega
theorem records_any (w : World) (lo : Option Addr) (cap kind : Nat) (cut : Int) (ls : List (List Nat)) (h : ls = [] ∨ ∃ b off, lo = some ⟨b, off, none⟩ ∧ ListsAt w b off ls) (ht : TabAt w) (htot : Rec.total ls ≤ 1048576) :
    Calls Tryd.prog 4 #[.slice lo ls.length cap, .int .u8 (kind : Int), .int .i64 cut] w fun e w' => e = .returned (.bool true) ∧ Below w.heap.size w w' := by
  rcases h with rfl | ⟨b, off, rfl, h⟩
  · exact records_none w lo cap kind cut ht
  · exact records_walk w b off cap kind cut ls h (by have := total_len ls; omega) ht htot

end Go.Proofs.YthdlilekilkogabDoor
