/-
  THE WALK OF preludelaw01.CodecOneForm.
-/
import Derived.Test.YthdlilekilkogabAwake
import Derived.Test.YthdlilekilkogabGood
import Derived.Test.YthdlilekilkogabCopied
import Derived.Test.YthdlilekilkogabOpenOps
namespace Go.Proofs.Ythdlilekilkogab
open Go.RowKit

/-- a Reader and a Writer side by side -/
structure Pair (w : World) (B R G BW : Nat) (zs : List Nat) (wr : World) (p : Nat) (e : Int) (v : Value) (L : List Nat) : Prop where
  reader : IsReader wr R (some ⟨G, 0, none⟩) zs.length zs p e
  writer : IsWriter wr BW BW v L
  below : Below B w wr
  hR : R < BW
  hG : G < BW
  hB : B ≤ R
theorem Pair.alloc {w wr : World} {B R G BW : Nat} {zs L : List Nat} {p : Nat} {e : Int} {v : Value} (h : Pair w B R G BW zs wr p e v L) (o : Obj) : Pair w B R G BW zs (wr.alloc o) p e v L :=
  have hb : Below wr.heap.size wr (wr.alloc o) := (Below.refl _ _).alloc (Nat.le_refl _) _
  ⟨h.reader.kept hb, h.writer.kept hb, h.below.alloc (by have := h.writer.size; have := h.hR; have := h.hB; omega) _, h.hR, h.hG, h.hB⟩
theorem Pair.reads {w wr w1 : World} {B R G BW : Nat} {zs L : List Nat} {p p' : Nat} {e e' : Int} {v : Value} (h : Pair w B R G BW zs wr p e v L) (hr : Reads wr R (some ⟨G, 0, none⟩) zs.length zs p' e' w1) : Pair w B R G BW zs w1 p' e' v L := by
  have h1 := h.hR
  have h2 := h.hB
  have h3 := h.writer.size
  refine ⟨hr.1, h.writer.grown hr.2 (by simp; omega) (.inr ?_), h.below.trans (reads_below hr h2 (by omega)), h1, h.hG, h2⟩
  intro e
  have := (h.writer.2.1.2.lt R e).1
  omega
theorem Pair.wrote {w wr w1 : World} {B R G BW : Nat} {zs L L1 : List Nat} {p : Nat} {e : Int} {v v1 : Value} (h : Pair w B R G BW zs wr p e v L) (hw : IsWriter w1 BW BW v1 L1) (hf : Wrote wr w1 BW v v1) : Pair w B R G BW zs w1 p e v1 L1 := by
  have h1 := h.hR
  have h2 := h.hB
  have hb := hf.below h.writer
  refine ⟨h.reader.below hb h1 (fun g hg => ?_), hw, h.below.trans (hb.mono (by omega)), h1, h.hG, h2⟩
  simp only [Value.ownBlock, Option.some.injEq] at hg
  rw [← hg]; exact h.hG
/-- a slice that a Reader has just handed out lies in none of the Writer's blocks -/
theorem Pair.apart {w wr w1 : World} {B R G BW : Nat} {zs L bs : List Nat} {p : Nat} {e : Int} {v : Value} (h : Pair w B R G BW zs wr p e v L) {ao : Option Addr} {n cap : Nat} (ho : OwnB w1 wr.heap.size (.slice ao n cap) bs) :
    ∀ a, bs ≠ [] → ao = some a → a.block ≠ BW ∧ v.ownBlock ≠ some a.block := by
  intro a _ ha
  subst ha
  have h1 := ownBlock_lt ho a.block rfl
  have h2 := h.writer.lt
  refine ⟨by omega, fun e => ?_⟩
  have := (h.writer.2.1.2.lt _ e).2
  omega

set_option maxHeartbeats 1000000 in
theorem oneForm_walk (w : World) (ao : Option Addr) (cap n : Nat) (zs : List Nat) (hn : n = zs.length) (h : BytesAt w ao zs) (so : Option Addr) (sc : Nat) (ops : List OpV) (sn : Nat) (hsn : sn = ops.length) (hs : ScriptAt w so ops) (hm : n + sn ≤ 1048576) :
    Calls Try.prog 3 #[.slice ao n cap, .slice so sn sc] w fun e w' => e = .returned (.bool true) ∧ Below w.heap.size w w' := by
  subst hn
  have HB0 : Hid (BytesAt w ao zs) := h
  have HS0 : Hid (ScriptAt w so ops) := hs
  have HSN : Hid (sn = ops.length) := hsn
  clear h hs hsn
  go_enter Try.func3, Try.ntmps3
  go_wp2_with fail
  refine (awake_any w).mono ?_
  rintro e w1 ⟨rfl, hb⟩
  have HB1 : Hid (Below w.heap.size w w1) := hb
  clear hb
  go_wp2_with fail
  refine (copied_any w1 ao cap zs.length zs rfl (HB0.out.kept HB1.out) (by omega)).mono ?_
  rintro e w2 ⟨rfl, hr, hb, hsz⟩
  have HB2 : Hid (Below w.heap.size w w2) := HB1.out.trans (hb.mono HB1.out.size)
  have HR2 : Hid (BytesAt w2 (some ⟨w1.heap.size, 0, none⟩) zs) := by
    rw [← List.append_nil zs] at hr
    exact RowAt.bytes0 hr HB0.out.1
  generalize w1.heap.size = G at *
  clear hr hb hsz HB1
  go_wp2_with fail
  refine (read_any w2 _ _ zs.length zs rfl HR2.out (by omega)).mono ?_
  rintro e w3 ⟨rfl, hr, hb, hsz⟩
  have HB3 : Hid (Below w.heap.size w w3) := HB2.out.trans (hb.mono HB2.out.size)
  have hB2 := HB2.out.size
  have hR1 : w.heap.size ≤ w2.heap.size + 1 := by omega
  have hR2 : w2.heap.size + 1 < w3.heap.size := by omega
  have hG : w2.heap.size < w3.heap.size := by omega
  generalize w2.heap.size + 1 = R at *
  generalize w2.heap.size = G2 at *
  have HR3 : Hid (IsReader w3 R (some ⟨G2, 0, none⟩) zs.length zs 0 0) := hr
  clear hr hb hsz HB2 HR2 hB2
  go_wp2_with fail
  refine (new_any w3).mono ?_
  rintro e w4 ⟨rfl, hw, hb, hsz⟩
  have hB3 : w.heap.size ≤ w3.heap.size := HB3.out.size
  have HB4 : Hid (Below w.heap.size w w4) := HB3.out.trans (hb.mono HB3.out.size)
  have HR4 : Hid (IsReader w4 R (some ⟨G2, 0, none⟩) zs.length zs 0 0) := HR3.out.kept hb
  have HW4 : Hid (IsWriter w4 w3.heap.size w3.heap.size (.slice none 0 0) []) := hw
  generalize w3.heap.size = BW at *
  clear hw hb hsz HB3 HR3
  go_wp2
  have HP4 : Hid (Pair w w.heap.size R G2 BW zs w4 0 0 (.slice none 0 0) []) := ⟨HR4.out, HW4.out, HB4.out, hR2, hG, hR1⟩
  clear HR4 HW4 HB4
  go_loopw [7] (fun x wr => ∃ (k p : Nat) (e : Int) (L : List Nat) (v : Value), k ≤ sn ∧ x = .int .i64 (k : Int) ∧ Hid (Pair w w.heap.size R G2 BW zs wr p e v L) ∧ Hid (Good zs k p e L)) (fun x _ => sn - (intOf x).toNat)
  case atStart => exact ⟨0, 0, 0, [], _, Nat.zero_le _, rfl, HP4, fun _ => by simp, by simp, by simp⟩
  case round =>
    obtain ⟨k, p, e, L, v, hk, rfl, HP, HG⟩ := hrel
    have hLl : L.length ≤ zs.length + k := HG.out.2.1
    by_cases hlt : k < sn
    · obtain ⟨sb, soff, hso, hop⟩ : ∃ sb soff, so = some ⟨sb, soff, none⟩ ∧ OpIs w sb (soff + k * 5) (ops.getD k default) := by
        rcases HS0.out with h0 | ⟨b, off, h1, h2⟩
        · have := HSN.out; rw [h0] at this; simp at this; omega
        · exact ⟨b, off, h1, h2 k (by rw [← HSN.out]; exact hlt)⟩
      subst hso
      obtain ⟨o0, o1, ⟨ba, bc, o2, _, _⟩, o3, o4, _, _, hm1, hm2⟩ := hop
      generalize (ops.getD k default).kind = kind at *
      generalize (ops.getD k default).n = n at *
      generalize (ops.getD k default).bs.length = bl at *
      generalize (ops.getD k default).most = most at *
      generalize (ops.getD k default).two = tz at *
      have hsb : sb < w.heap.size := World.block_lt_of_cell? w ⟨sb, soff + k * 5, none⟩ o0
      have hcell : ∀ j, wr.cell? ⟨sb, j, none⟩ = w.cell? ⟨sb, j, none⟩ := fun j => HP.out.below.cell (p := ⟨sb, j, none⟩) hsb
      rw [← hcell] at o0 o1 o2 o3 o4
      have HZ : Hid (∀ z ∈ zs, z < 256) := HB0.out.1
      have HPA : Hid (Pair w w.heap.size R G2 BW zs (wr.alloc (.cells #[.int .i64 kind, .int .u64 (n : Int), .slice ba bl bc, .int .i64 most, .bool tz] 32)) p e v L) := HP.out.alloc _
      clear hcell HS0 hsb HP
      go_wp2_with fail
      · refine (rByte_any _ R _ _ _ _ _ HPA.out.reader).mono ?_
        rintro e1 w1 ⟨rfl, hr⟩
        have HP1 : Hid (Pair w w.heap.size R G2 BW zs w1 (rdByte zs p e).2.1 (rdByte zs p e).2.2 v L) := HPA.out.reads hr
        have HG1 := good_byte HG.out
        have hz1 : (rdByte zs p e).1 < 256 := by
          unfold rdByte
          split
          · simp
          · split
            · simp
            · exact getD_lt HZ.out p
        clear hr
        go_wp2_with fail
        refine (wByte_any w1 BW BW (rdByte zs p e).1 v L HP1.out.writer hz1 (by omega)).mono ?_
        rintro e2 w2 ⟨rfl, v2, hw2, hf2⟩
        have HP2 : Hid (Pair w w.heap.size R G2 BW zs w2 (rdByte zs p e).2.1 (rdByte zs p e).2.2 v2 (L ++ [(rdByte zs p e).1])) := HP1.out.wrote hw2 hf2
        clear hw2 hf2 hz1
        go_wp2
        go_roundw
        case rel => exact ⟨k + 1, _, _, _, _, by omega, by go_num, HP2, HG1⟩
        case measure => simp [intOf]; omega
      · refine (rUint_any _ R _ _ _ _ _ HPA.out.reader).mono ?_
        rintro e1 w1 ⟨rfl, hr⟩
        have HP1 : Hid (Pair w w.heap.size R G2 BW zs w1 (rdUpto zs p e 18446744073709551615).2.1 (rdUpto zs p e 18446744073709551615).2.2 v L) := HPA.out.reads hr
        have HG1 := good_upto HZ.out 18446744073709551615 HG.out
        have hz1 := rdUpto_lt zs HZ.out p e 18446744073709551615
        clear hr
        go_wp2_with fail
        refine (wUint_any w1 BW BW (rdUpto zs p e 18446744073709551615).1 v L HP1.out.writer hz1 (by omega)).mono ?_
        rintro e2 w2 ⟨rfl, v2, hw2, hf2⟩
        have HP2 : Hid (Pair w w.heap.size R G2 BW zs w2 (rdUpto zs p e 18446744073709551615).2.1 (rdUpto zs p e 18446744073709551615).2.2 v2 (L ++ uint 10 (rdUpto zs p e 18446744073709551615).1)) := HP1.out.wrote hw2 hf2
        clear hw2 hf2 hz1
        go_wp2
        go_roundw
        case rel => exact ⟨k + 1, _, _, _, _, by omega, by go_num, HP2, HG1⟩
        case measure => simp [intOf]; omega
      · refine (rUpto_any _ R _ _ _ _ _ n HPA.out.reader).mono ?_
        rintro e1 w1 ⟨rfl, hr⟩
        have HP1 : Hid (Pair w w.heap.size R G2 BW zs w1 (rdUpto zs p e n).2.1 (rdUpto zs p e n).2.2 v L) := HPA.out.reads hr
        have HG1 := good_upto HZ.out n HG.out
        have hz1 := rdUpto_lt zs HZ.out p e n
        clear hr
        go_wp2_with fail
        refine (wUint_any w1 BW BW (rdUpto zs p e n).1 v L HP1.out.writer hz1 (by omega)).mono ?_
        rintro e2 w2 ⟨rfl, v2, hw2, hf2⟩
        have HP2 : Hid (Pair w w.heap.size R G2 BW zs w2 (rdUpto zs p e n).2.1 (rdUpto zs p e n).2.2 v2 (L ++ uint 10 (rdUpto zs p e n).1)) := HP1.out.wrote hw2 hf2
        clear hw2 hf2 hz1
        go_wp2
        go_roundw
        case rel => exact ⟨k + 1, _, _, _, _, by omega, by go_num, HP2, HG1⟩
        case measure => simp [intOf]; omega
      · refine (rInt_any _ R _ _ _ _ _ HPA.out.reader).mono ?_
        rintro e1 w1 ⟨rfl, hr⟩
        have HP1 : Hid (Pair w w.heap.size R G2 BW zs w1 (rdUpto zs p e 18446744073709551615).2.1 (rdUpto zs p e 18446744073709551615).2.2 v L) := HPA.out.reads hr
        have HG1 := good_upto HZ.out 18446744073709551615 HG.out
        have hz1 := rdUpto_lt zs HZ.out p e 18446744073709551615
        clear hr
        go_wp2_with fail
        refine (wInt_any w1 BW BW (unfold (rdUpto zs p e 18446744073709551615).1) v L HP1.out.writer (unfold_range _ hz1).1 (unfold_range _ hz1).2 (by omega)).mono ?_
        rintro e2 w2 ⟨rfl, v2, hw2, hf2⟩
        rw [fold_unfold _ hz1] at hw2
        have HP2 : Hid (Pair w w.heap.size R G2 BW zs w2 (rdUpto zs p e 18446744073709551615).2.1 (rdUpto zs p e 18446744073709551615).2.2 v2 (L ++ uint 10 (rdUpto zs p e 18446744073709551615).1)) := HP1.out.wrote hw2 hf2
        clear hw2 hf2 hz1
        go_wp2
        go_roundw
        case rel => exact ⟨k + 1, _, _, _, _, by omega, by go_num, HP2, HG1⟩
        case measure => simp [intOf]; omega
      · refine (rBytes_any _ R _ _ _ _ _ most HPA.out.reader hm1 hm2).mono ?_
        rintro e1 w1 ⟨v1, rfl, ho, hr⟩
        have HP1 : Hid (Pair w w.heap.size R G2 BW zs w1 (rdBytes zs p e most).2.1 (rdBytes zs p e most).2.2 v L) := HPA.out.reads hr
        have HG1 := good_bytes HZ.out most HG.out
        obtain ⟨a1, c1, hv1, hb1, hn1, _⟩ := ho.slice
        subst hv1
        have HAP := HPA.out.apart ho
        have HB1 : Hid (BytesAt w1 a1 (rdBytes zs p e most).1) := hb1
        have hl1 := rdBytes_length zs p e most
        clear hr ho hb1
        go_wp2_with fail
        refine (wBytes_any w1 BW BW v L (rdBytes zs p e most).1 a1 _ c1 HP1.out.writer rfl HB1.out hn1 (by omega) HAP).mono ?_
        rintro e2 w2 ⟨rfl, v2, hw2, hf2⟩
        have HP2 : Hid (Pair w w.heap.size R G2 BW zs w2 (rdBytes zs p e most).2.1 (rdBytes zs p e most).2.2 v2 (L ++ (uint 10 (rdBytes zs p e most).1.length ++ (rdBytes zs p e most).1))) := HP1.out.wrote hw2 hf2
        clear hw2 hf2 HAP
        go_wp2
        go_roundw
        case rel => exact ⟨k + 1, _, _, _, _, by omega, by go_num, HP2, HG1⟩
        case measure => simp [intOf]; omega
      · refine (rRaw_any _ R _ _ _ _ _ most HPA.out.reader).mono ?_
        rintro e1 w1 ⟨v1, rfl, ho, hr⟩
        have HP1 : Hid (Pair w w.heap.size R G2 BW zs w1 (rdRaw zs p e most).2.1 (rdRaw zs p e most).2.2 v L) := HPA.out.reads hr
        have HG1 := good_raw most HG.out
        obtain ⟨a1, c1, hv1, hb1, hn1, _⟩ := ho.slice
        subst hv1
        have HAP := HPA.out.apart ho
        have HB1 : Hid (BytesAt w1 a1 (rdRaw zs p e most).1) := hb1
        have hl1 := rdRaw_length zs p e most
        clear hr ho hb1
        go_wp2_with fail
        refine (wRaw_any w1 BW BW v L (rdRaw zs p e most).1 a1 _ c1 HP1.out.writer rfl HB1.out hn1 (by omega)).mono ?_
        rintro e2 w2 ⟨rfl, v2, hw2, hf2⟩
        have HP2 : Hid (Pair w w.heap.size R G2 BW zs w2 (rdRaw zs p e most).2.1 (rdRaw zs p e most).2.2 v2 (L ++ (rdRaw zs p e most).1)) := HP1.out.wrote hw2 hf2
        clear hw2 hf2 HAP
        go_wp2
        go_roundw
        case rel => exact ⟨k + 1, _, _, _, _, by omega, by go_num, HP2, HG1⟩
        case measure => simp [intOf]; omega
      · go_wp2
        go_roundw
        case rel => exact ⟨k + 1, _, _, _, _, by omega, by go_num, HPA, HG.out.1, by have := HG.out.2.1; omega, HG.out.2.2⟩
        case measure => simp [intOf]; omega
    · have HSB : Hid (BytesAt wr ao zs) := HB0.out.kept HP.out.below
      go_wp2_with fail
      refine (rEnd_any wr R _ _ _ _ _ HP.out.reader).mono ?_
      rintro e1 w1 ⟨rfl, q, hq⟩
      have HW1 : Hid (IsWriter w1 BW BW v L) := by rw [hq]; exact HP.out.writer
      have HB1 : Hid (Below w.heap.size w w1) := by rw [hq]; exact below_of_drewN HP.out.below q
      have HA1 : Hid (BytesAt w1 ao zs) := by rw [hq]; exact HSB.out
      have HGE : Hid (rdEnd zs p e = 0 → L = zs) := good_end HG.out
      clear hq HP HG HSB
      generalize rdEnd zs p e = en at *
      by_cases he : en = 0
      · have hL := HGE.out he
        subst hL he
        go_wp2_with fail
        refine (wOut_any w1 BW BW v L HW1.out (by omega)).mono ?_
        rintro e2 w2 ⟨rfl, hr2, hb2, hs2⟩
        have HB2 : Hid (Below w.heap.size w w2) := HB1.out.trans (hb2.mono HB1.out.size)
        have HA2 : Hid (BytesAt w2 ao L) := HA1.out.kept hb2
        have HR2 : Hid (BytesAt w2 (some ⟨w1.heap.size, 0, none⟩) L) := by
          rw [← List.append_nil L] at hr2
          exact RowAt.bytes0 hr2 HA1.out.1
        clear hr2 hb2 hs2
        go_wp2_with fail
        refine (same_any w2 _ _ _ _ _ _ L L rfl rfl HR2.out HA2.out (by unfold maxLen; omega)).mono ?_
        rintro e3 w3 ⟨rfl, q3, hq3⟩
        have HB3 : Hid (Below w.heap.size w w3) := by rw [hq3]; exact below_of_drewN HB2.out q3
        clear hq3
        go_wp2
        go_ret
        exact ⟨by simp, HB3.out⟩
      · have he' : (en != 0) = true := by rw [bne_iff_ne]; exact he
        go_wp2
        go_ret
        exact ⟨rfl, HB1.out⟩

end Go.Proofs.Ythdlilekilkogab
