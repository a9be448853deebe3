/-
  VmDriven: THE WALK.
-/
import Derived.Test.YtbpgafchagpmoaaXDriven
import Derived.Deep.RegionHeld
namespace Go.Proofs.Ytbpgafchagpmoaa
open Go.RowKit Go.Sort

theorem hidMx {V X : World} {B : Nat} {Z : MZ} {L : List K} {A : List Int} {R : List C} {m : M} (h : Mx V X B Z L A R m) : Hid (Mx V X B Z L A R m) := h
theorem hidEf {w : World} {a1 a2 : Option Addr} {x : Ef} (h : EfR w a1 a2 x) : Hid (EfR w a1 a2 x) := h
set_option maxRecDepth 100000 in
set_option maxHeartbeats 2000000 in
theorem driven_walk (w : World) (p : Nums) (ao : Option Addr) (n cap : Nat) (L : List K) (aa : Option Addr) (na ca : Nat) (A : List Int) (ra : Option Addr) (nr cr : Nat) (R : List C) (hin : CallIn w p ao n cap L aa na ca A ra nr cr R) :
    Calls Try.prog 6 #[callV p ao n cap aa na ca ra nr cr] w fun e w' => e = .returned (.bool true) ∧ Go.RowKit.Below w.heap.size w w' := by
  have HIn : Hid (CallIn w p ao n cap L aa na ca A ra nr cr R) := hin
  have HB0 : Hid (Go.RowKit.Below w.heap.size w (w.alloc (cO p ao n cap aa na ca ra nr cr))) := (Below.refl _ _).alloc (Nat.le_refl _) _
  have HC0 : Hid (CBox (w.alloc (cO p ao n cap aa na ca ra nr cr)) w.heap.size p ao n cap aa na ca ra nr cr) := heap_alloc_new _ _ rfl
  clear hin
  go_enter Try.func6, Try.ntmps6
  go_wp2_with fail
  refine (awake_any _).mono ?_
  rintro e w1 ⟨rfl, hb1⟩
  have HB1 : Hid (Go.RowKit.Below w.heap.size w w1) := HB0.out.trans (hb1.mono HB0.out.size)
  have HC1 : Hid (CBox w1 w.heap.size p ao n cap aa na ca ra nr cr) := HC0.out.kept hb1
  have HI1 : Hid (CallIn w1 p ao n cap L aa na ca A ra nr cr R) := HIn.out.kept HB1.out
  obtain ⟨x0, x1, x2, x3, x4, x5, x6⟩ := HC1.out.cells
  clear hb1 HB0 HC0 HIn
  go_wp2_with fail
  refine (run_use w1 p ao n cap L aa na ca A ra nr cr R HI1.out).mono ?_
  rintro e w2 ⟨a1, k1, a2, k2, rfl, he2, hb2⟩
  have HX : Hid (runX p L A R = runX p L A R) := rfl
  obtain ⟨x, hx⟩ : ∃ x, x = runX p L A R := ⟨_, rfl⟩
  rw [← hx] at he2 ⊢
  have HXe : Hid (x = runX p L A R) := hx
  have hbA : Go.RowKit.Below w2.heap.size w2 (w2.alloc (eQ x.commit x.code x.user a1 x.out.length k1 a2 x.puts.length k2 (x.steps : Int))) := (Below.refl _ _).alloc (Nat.le_refl _) _
  have HB2 : Hid (Go.RowKit.Below w.heap.size w (w2.alloc (eQ x.commit x.code x.user a1 x.out.length k1 a2 x.puts.length k2 (x.steps : Int)))) := (HB1.out.trans (hb2.mono HB1.out.size)).trans (hbA.mono (HB1.out.trans (hb2.mono HB1.out.size)).size)
  have HC2 : Hid (CBox (w2.alloc (eQ x.commit x.code x.user a1 x.out.length k1 a2 x.puts.length k2 (x.steps : Int))) w.heap.size p ao n cap aa na ca ra nr cr) := (HC1.out.kept hb2).kept hbA
  have HI2 : Hid (CallIn (w2.alloc (eQ x.commit x.code x.user a1 x.out.length k1 a2 x.puts.length k2 (x.steps : Int))) p ao n cap L aa na ca A ra nr cr R) := (HI1.out.kept hb2).kept hbA
  have HE2 : Hid (EfR (w2.alloc (eQ x.commit x.code x.user a1 x.out.length k1 a2 x.puts.length k2 (x.steps : Int))) a1 a2 x) := he2.grew hbA
  have HR2 : Hid (RE (w2.alloc (eQ x.commit x.code x.user a1 x.out.length k1 a2 x.puts.length k2 (x.steps : Int))) w2.heap.size (.bool x.commit) (.int .i64 x.code) (.int .i64 x.user) (.slice a1 x.out.length k1) (.slice a2 x.puts.length k2) (.int .i64 (x.steps : Int))) := RE.new _ _ _ _ _ _ _
  clear he2 hb2 hbA hx x0 x1 x2 x3 x4 x5 x6 HB1 HC1 HI1 HX
  go_upto_region 4 with fail
  generalize w2.alloc (eQ x.commit x.code x.user a1 x.out.length k1 a2 x.puts.length k2 (x.steps : Int)) = V at *
  generalize w2.heap.size = b3 at *
  obtain ⟨x0, x1, x2, x3, x4, x5, x6⟩ := HC2.out.cells
  have HN := new_any V p ao n cap L aa na ca A ra nr cr R HI2.out
  go_wp2_with fail
  refine HN.mono ?_
  rintro e w3 ⟨hp, hb3⟩
  have HB3 : Hid (Go.RowKit.Below w.heap.size w w3) := HB2.out.trans (hb3.mono HB2.out.size)
  have HP : Hid (NewPost V p L A R e w3) := hp
  have HB3' : Hid (Go.RowKit.Below V.heap.size V w3) := hb3
  clear hp hb3 HN x0 x1 x2 x3 x4 x5 x6
  rcases HP.out with ⟨h1, rfl⟩ | ⟨h1, B, Z, rfl, h2, h3⟩
  · have h1' : (newE p L A R != 0) = true := by simpa using h1
    clear h1 HP
    generalize newE p L A R = ne at *
    go_wp2
    go_ret
    exact ⟨rfl, HB3.out⟩
  · obtain ⟨hv, hfed, _⟩ := newE_zero h1
    obtain ⟨d, hs⟩ := sound_of hv
    rw [h1]
    have HS : Hid (Sound p L d) := hs
    have HF : Hid (Fed p A R) := hfed
    have HM : Hid (Mx V w3 B Z L A R (startM p)) := ⟨h3, HB3'.out⟩
    have hXe : x = effN L.length (lastM L A R (startM p)) := by rw [HXe.out]; exact if_neg (by simp [h1])
    have HXl : Hid (x = effN L.length (lastM L A R (startM p))) := hXe
    obtain ⟨hfd, hfl⟩ := first_done (A := A) (R := R) hs
    have hst : x.steps = (lastM L A R (startM p)).steps := by rw [hXe]; unfold effN; rw [if_pos (last_done hs (good_start hs))]
    rw [← hst] at hfd hfl
    have HFd : Hid (doneB L.length (runN L A R (startM p) x.steps) = true) := hfd
    have HFl : Hid (∀ k, k < x.steps → doneB L.length (runN L A R (startM p) k) = false) := hfl
    have hm1 := ends_math h1
    have HSz : Hid (x.out.length ≤ 1000000 ∧ x.puts.length ≤ 1000000) := by rw [HXe.out]; exact ⟨Nat.le_trans hm1.2.2.1 (by omega), Nat.le_trans hm1.2.2.2.1 (by omega)⟩
    have hs256 : x.steps ≤ 256 := by
      have h6 := most_few L hs.sane L.length (Nat.le_refl _) 0 (by rw [most_length]; omega)
      have h7 := ((limB_iff p L.length).1 hs.lim).2.2.2.2
      have := hm1.1
      rw [← HXe.out] at this
      omega
    clear h1 h2 h3 hv hfed hs hXe hfd hfl hst hm1 HP
    obtain ⟨_, _, _, _, _, r5⟩ := (HR2.out.below HB3'.out HR2.out.lt).cells
    go_wp2_with fail
    clear r5
    go_loopw [7] (fun xx wr => ∃ k : Nat, k ≤ x.steps ∧ xx = .int .i64 (k : Int) ∧ Hid (Mx V wr B Z L A R (runN L A R (startM p) k))) (fun xx _ => x.steps - (intOf xx).toNat)
    case atStart => exact ⟨0, by omega, rfl, HM⟩
    case round =>
      clear HM HB3 HB3'
      obtain ⟨k, hk, rfl, HMk⟩ := hrel
      have HGk : Hid (Good p L d (runN L A R (startM p) k)) := run_keeps HS.out (good_start HS.out) k
      obtain ⟨_, _, _, _, _, r5⟩ := (HR2.out.below HMk.out.2 HR2.out.lt).cells
      by_cases hlt : k < x.steps
      · have HDk : Hid (doneB L.length (runN L A R (startM p) k) = false) := HFl.out k hlt
        have HDn := done_x HMk.out
        rw [HDk.out] at HDn
        go_wp2_with fail
        refine HDn.mono ?_
        rintro e w4 ⟨rfl, hm4⟩
        have HEf := effect_z hm4 HS.out HGk.out HDk.out
        clear HDn r5
        go_wp2_with fail
        refine HEf.mono ?_
        rintro e w5 ⟨c1, l1, c2, l2, rfl, hm5⟩
        have HM5 : Hid (Mx V w5 B Z L A R (runN L A R (startM p) k)) := hm5
        clear HEf hm4 hm5
        go_wp2_with fail
        refine (same_z w5 c1 c2 l1 l2).mono ?_
        rintro e w6 ⟨rfl, hb6⟩
        have HM6 : Hid (Mx V w6 B Z L A R (runN L A R (startM p) k)) := HM5.out.kept hb6
        have HSt := step_x HM6.out HS.out HGk.out HF.out
        rw [HDk.out] at HSt
        clear hb6 HM5
        go_wp2_with fail
        refine HSt.mono ?_
        rintro e w7 ⟨rfl, hm7⟩
        have HM7 : Hid (Mx V w7 B Z L A R (runN L A R (startM p) (k + 1))) := hm7
        clear HSt hm7
        go_wp2
        go_roundw
        case rel => exact ⟨k + 1, by omega, by go_num, HM7⟩
        case measure => simp [intOf]; omega
      · obtain rfl : k = x.steps := by omega
        have HL : Hid (runN L A R (startM p) x.steps = lastM L A R (startM p)) := last_eq HS.out (good_start HS.out) HFd.out
        have HEx : Hid (effN L.length (runN L A R (startM p) x.steps) = x) := by rw [HL.out]; exact HXl.out.symm
        have HSm : Hid (stepN L A R (runN L A R (startM p) x.steps) = runN L A R (startM p) x.steps) := step_done HFd.out
        clear HL HXl HXe HFl
        generalize runN L A R (startM p) x.steps = m at *
        have HDn : Hid (∀ X, Mx V X B Z L A R m → Calls Try.prog 21 #[pm B] X fun e w' => e = .returned (.bool true) ∧ Mx V w' B Z L A R m) := fun X h => by have := done_x h; rw [HFd.out] at this; exact this
        have HSt : Hid (∀ X, Mx V X B Z L A R m → Calls Try.prog 23 #[pm B] X fun e w' => e = .returned (.bool false) ∧ Mx V w' B Z L A R m) := fun X h => by have := step_x h HS.out HGk.out HF.out; rw [HFd.out, HSm.out] at this; exact this
        have HEf : Hid (∀ X, Mx V X B Z L A R m → Calls Try.prog 22 #[pm B] X fun e w' => ∃ c1 l1 c2 l2, e = .returned (.agg (eP x.commit x.code x.user c1 x.out.length l1 c2 x.puts.length l2 (x.steps : Int))) ∧ EfR w' c1 c2 x ∧ Mx V w' B Z L A R m) := fun X h => effect_d h HS.out HGk.out HEx.out
        have HSe : Hid (∀ X (c1 c2 : Option Addr) (l1 l2 : Nat), Mx V X B Z L A R m → EfR X c1 c2 x → Calls Try.prog 12 #[.agg (eP x.commit x.code x.user c1 x.out.length l1 c2 x.puts.length l2 (x.steps : Int)), .agg (eP x.commit x.code x.user a1 x.out.length k1 a2 x.puts.length k2 (x.steps : Int))] X fun e w' => e = .returned (.bool true) ∧ Mx V w' B Z L A R m) := fun X c1 c2 l1 l2 h h2 =>
          (sameEffect_eq X x c1 c2 a1 a2 l1 l2 k1 k2 h2 (HE2.out.grew h.2) HSz.out.1 HSz.out.2).mono fun _ _ ⟨e1, e2⟩ => ⟨e1, h.kept e2⟩
        have HAt := at_any wr _ B Z L A R m HMk.out.1
        clear HFd HSm HEx
        go_wp2_with fail
        refine HAt.mono ?_
        rintro e w4 ⟨rfl, rfl⟩
        clear HAt r5
        have HMd : Hid (Mx V w4.drew B Z L A R m) := HMk.out.kept ((Grew.refl w4).drewN 1).below
        obtain ⟨r0, r1, r2, r3, r4, r5⟩ := (HR2.out.below HMd.out.2 HR2.out.lt).cells
        go_upto_region 15 with fail
        go_cut [78] (fun s wx => s = .bool false ∧ Hid (Mx V wx B Z L A R m))
        case first =>
          go_region_held (fun w' => w'.cell? ⟨b3, 0, none⟩ = some (.bool x.commit) ∧ w'.cell? ⟨b3, 1, none⟩ = some (.int .i64 x.code) ∧ w'.cell? ⟨b3, 2, none⟩ = some (.int .i64 x.user) ∧ w'.cell? ⟨b3, 3, none⟩ = some (.slice a1 x.out.length k1) ∧ w'.cell? ⟨b3, 4, none⟩ = some (.slice a2 x.puts.length k2) ∧ w'.cell? ⟨b3, 5, none⟩ = some (.int .i64 (x.steps : Int)))
            (first | with_reducible exact ⟨r0, r1, r2, r3, r4, r5⟩ | exact ⟨r0, r1, r2, r3, r4, r5⟩) (first
            | (go_at_call 21; refine (HDn.out _ HMd.out).mono ?_; rintro e w5 ⟨rfl, hm5⟩; have HM5 := hidMx hm5; clear hm5; obtain ⟨r0, r1, r2, r3, r4, r5⟩ := (HR2.out.below HM5.out.2 HR2.out.lt).cells)
            | (go_at_call 22; refine (HEf.out _ HM5.out).mono ?_; rintro e w6 ⟨c1, l1, c2, l2, rfl, he6, hm6⟩; have HM6 := hidMx hm6; have HE6 := hidEf he6; clear hm6 he6; obtain ⟨r0, r1, r2, r3, r4, r5⟩ := (HR2.out.below HM6.out.2 HR2.out.lt).cells)
            | (go_at_call 12; refine (HSe.out _ c1 c2 l1 l2 HM6.out HE6.out).mono ?_; rintro e w7 ⟨rfl, hm7⟩; have HM7 := hidMx hm7; clear hm7; obtain ⟨r0, r1, r2, r3, r4, r5⟩ := (HR2.out.below HM7.out.2 HR2.out.lt).cells)
            | (go_at_call 23; refine (HSt.out _ HM7.out).mono ?_; rintro e w8 ⟨rfl, hm8⟩; have HM8 := hidMx hm8; clear hm8; obtain ⟨r0, r1, r2, r3, r4, r5⟩ := (HR2.out.below HM8.out.2 HR2.out.lt).cells))
          all_goals (go_wp2_with fail; go_meet; exact ⟨rfl, HM8⟩)
        case rest =>
          obtain ⟨rfl, HMc⟩ := hcut
          clear r0 r1 r2 r3 r4 r5 HMd HMk
          have HMd : Hid (Mx V wc.drew B Z L A R m) := HMc.out.kept ((Grew.refl wc).drewN 1).below
          obtain ⟨r0, r1, r2, r3, r4, r5⟩ := (HR2.out.below HMd.out.2 HR2.out.lt).cells
          have HAt : Hid (∀ X, Mx V X B Z L A R m → Calls Try.prog 24 #[pm B] X fun e w' => e = .returned (.int .i64 (m.at_ : Int)) ∧ Mx V w' B Z L A R m) := fun X h => (at_any X _ B Z L A R m h.1).mono fun _ _ ⟨e1, e2⟩ => ⟨e1, by rw [e2]; exact h⟩
          go_wp2_with fail
          go_region_held (fun w' => w'.cell? ⟨b3, 0, none⟩ = some (.bool x.commit) ∧ w'.cell? ⟨b3, 1, none⟩ = some (.int .i64 x.code) ∧ w'.cell? ⟨b3, 2, none⟩ = some (.int .i64 x.user) ∧ w'.cell? ⟨b3, 3, none⟩ = some (.slice a1 x.out.length k1) ∧ w'.cell? ⟨b3, 4, none⟩ = some (.slice a2 x.puts.length k2) ∧ w'.cell? ⟨b3, 5, none⟩ = some (.int .i64 (x.steps : Int)))
            (first | with_reducible exact ⟨r0, r1, r2, r3, r4, r5⟩ | exact ⟨r0, r1, r2, r3, r4, r5⟩) (first
            | (go_at_call 21; refine (HDn.out _ HMd.out).mono ?_; rintro e w5 ⟨rfl, hm5⟩; have HM5 := hidMx hm5; clear hm5; obtain ⟨r0, r1, r2, r3, r4, r5⟩ := (HR2.out.below HM5.out.2 HR2.out.lt).cells)
            | (go_at_call 24; refine (HAt.out _ HM5.out).mono ?_; rintro e w6 ⟨rfl, hm6⟩; have HM6 := hidMx hm6; clear hm6; obtain ⟨r0, r1, r2, r3, r4, r5⟩ := (HR2.out.below HM6.out.2 HR2.out.lt).cells)
            | (go_at_call 22; refine (HEf.out _ HM6.out).mono ?_; rintro e w7 ⟨c1, l1, c2, l2, rfl, he7, hm7⟩; have HM7 := hidMx hm7; have HE7 := hidEf he7; clear hm7 he7; obtain ⟨r0, r1, r2, r3, r4, r5⟩ := (HR2.out.below HM7.out.2 HR2.out.lt).cells)
            | (go_at_call 12; refine (HSe.out _ c1 c2 l1 l2 HM7.out HE7.out).mono ?_; rintro e w8 ⟨rfl, hm8⟩; have HM8 := hidMx hm8; clear hm8; obtain ⟨r0, r1, r2, r3, r4, r5⟩ := (HR2.out.below HM8.out.2 HR2.out.lt).cells))
          all_goals (
            go_wp2
            go_ret
            exact ⟨rfl, HB2.out.trans (HM8.out.2.mono HB2.out.size)⟩)
end Go.Proofs.Ytbpgafchagpmoaa
