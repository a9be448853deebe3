import Derived.Test.YtiiplikmoodfnaaGreatDoorKARendH
/-
  THE DOCUMENT's head: the state.
-/
namespace Go.Proofs.YtiiplikmoodfnaaGreatDoor
open Go.RowKit Go.Sort

/-- the ten numbers -/
def arrN (ns : List Int) : Array Value := #[.int .i64 0, .int .i64 0, .int .i64 0, .int .i64 (ns.getD 0 0), .int .i64 0, .int .i64 (ns.getD 1 0), .int .i64 0, .int .i64 (ns.getD 2 0), .int .i64 0, .int .i64 (ns.getD 3 0)]
def arrF : Array Value := #[.string (S (fxN 0)), .string (S (fxN 1)), .string (S (fxN 2)), .string (S (fxN 3)), .string (S (fxN 4)), .string (S (fxN 5)), .string (S (fxN 6)), .string (S (fxN 7)), .string (S (fxN 8)), .string (S (fxN 9))]
theorem arrF_at (i : Nat) (h : i < 10) : arrF[i]? = some (.string (S (fxN i))) := by
  rcases (show i = 0 ∨ i = 1 ∨ i = 2 ∨ i = 3 ∨ i = 4 ∨ i = 5 ∨ i = 6 ∨ i = 7 ∨ i = 8 ∨ i = 9 by omega) with rfl | rfl | rfl | rfl | rfl | rfl | rfl | rfl | rfl | rfl <;> rfl
/-- how many numbers there are behind i words -/
def cntN (i : Nat) : Nat := (i - 2) / 2
theorem cnt_fx : ∀ i, i < 10 → (fxN i ≠ [] → cntN (i + 1) = cntN i) ∧ (fxN i = [] → 1 < i → cntN (i + 1) = cntN i + 1) ∧ (¬ 1 < i → cntN (i + 1) = cntN i) := by decide
theorem headE_len {ws : List Wd} : ∀ {i : Nat} {ns : List Int}, i ≤ 10 → headE ws i = .ok ns → ns.length = cntN i
  | 0, ns, _, h => by cases h; rfl
  | i + 1, ns, hi, h => by
    obtain ⟨c1, c2, c3⟩ := cnt_fx i (by omega)
    rw [headE_step] at h
    cases h1 : headE ws i with
    | error e => simp only [h1] at h; cases h
    | ok ns1 =>
      have ih := headE_len (by omega) h1
      simp only [h1] at h
      cases h0 : ws[i]? with
      | none => simp only [h0] at h; cases h
      | some x =>
        simp only [h0] at h
        by_cases hf : fxN i ≠ []
        · rw [if_pos hf] at h
          split at h
          · cases h; rw [c1 hf]; exact ih
          · cases h
        · rw [if_neg hf] at h
          by_cases h2 : 1 < i
          · rw [if_pos h2] at h
            split at h
            · cases h; rw [List.length_append, ih, c2 (by simpa using hf) h2]; rfl
            · cases h
          · rw [if_neg h2] at h
            cases h; rw [c3 h2]; exact ih
theorem headE_in {ws : List Wd} : ∀ {i : Nat} {ns : List Int}, headE ws i = .ok ns → ∀ v ∈ ns, In64 v
  | 0, ns, h => by cases h; simp
  | i + 1, ns, h => by
    rw [headE_step] at h
    cases h1 : headE ws i with
    | error e => simp only [h1] at h; cases h
    | ok ns1 =>
      have ih := headE_in h1
      simp only [h1] at h
      cases h0 : ws[i]? with
      | none => simp only [h0] at h; cases h
      | some x =>
        simp only [h0] at h
        split at h
        · split at h
          · cases h; exact ih
          · cases h
        · split at h
          · split at h
            · cases h
              intro v hv
              rcases List.mem_append.1 hv with hv | hv
              · exact ih v hv
              · simp only [List.mem_singleton] at hv
                subst hv
                exact num1_in _
            · cases h
          · cases h; exact ih
/-- one number more -/
theorem arrN_set {ns : List Int} {i : Nat} {v : Int} (hl : ns.length = cntN i) (hi : i = 3 ∨ i = 5 ∨ i = 7 ∨ i = 9) : (arrN ns).setIfInBounds i (.int .i64 v) = arrN (ns ++ [v]) := by
  rcases hi with rfl | rfl | rfl | rfl
  · match ns, hl with
    | [], _ => rfl
  · match ns, hl with
    | [a], _ => rfl
  · match ns, hl with
    | [a, b], _ => rfl
  · match ns, hl with
    | [a, b, c], _ => rfl
theorem getD_in {ns : List Int} (h : ∀ v ∈ ns, In64 v) (i : Nat) : In64 (ns.getD i 0) := by
  rw [List.getD_eq_getElem?_getD]
  cases e : ns[i]? with
  | none => show In64 0; unfold In64; omega
  | some v => exact h v (List.mem_of_getElem? e)
theorem fx_odd {i : Nat} (h : fxN i = []) (h1 : 1 < i) (h2 : i < 10) : i = 3 ∨ i = 5 ∨ i = 7 ∨ i = 9 := by
  rcases (show i = 2 ∨ i = 3 ∨ i = 4 ∨ i = 5 ∨ i = 6 ∨ i = 7 ∨ i = 8 ∨ i = 9 by omega) with rfl | rfl | rfl | rfl | rfl | rfl | rfl | rfl <;> first | (exfalso; revert h; decide) | omega
/-- a procedure is open -/
theorem DS.head {W W' : World} {M B : Nat} {a : As} {Qs : List Pr} {nl : List (Nat × Nat)} {Lo : List K} {r : Rv} (h : DS W M B a Qs nl Lo r) (ho : a.opn = false) (nm : List UInt8) (p : Nums) (bg pl : Nat × Nat) (hp : NIn p) (hn : nm.length ≤ 65536) (hx : RX W' B { r with opn := true, begun := bg, p := p, code := .slice none 0 0, name := nm, nmAt := pl, marks := .slice none 0 0, uses := .slice none 0 0 }) (f : FrB B none W W') :
    DS W' M B { a with lib := a.lib ++ [⟨nm, p, []⟩], names := a.names ++ [pl], opn := true, begun := bg, labels := [], jumps := [] } Qs nl [] { r with opn := true, begun := bg, p := p, code := .slice none 0 0, name := nm, nmAt := pl, marks := .slice none 0 0, uses := .slice none 0 0 } := by
  refine ⟨hx, rfl, rfl, f.rowN h.rx h.lib (by decide), ?_, fun x hx => ⟨(h.code x hx).1, f.rowN h.rx (h.code x hx).2 (by decide)⟩, h.ap, f.rowN h.rx h.nms (by decide), ?_, ⟨rfl, .inl ⟨rfl, rfl⟩⟩, ⟨rfl, .inl ⟨rfl, rfl⟩⟩, fun _ => ⟨⟨rfl, .inl ⟨rfl, rfl⟩⟩, fun x _ g _ e => (by cases e)⟩, h.ok, fun _ => ⟨hp, fun k hk => (by cases hk), hn⟩, ⟨h.bm.1, Nat.le_trans h.bm.2 f.size⟩, fun g hg => (by cases hg)⟩
  · show a.lib ++ _ = Qs.map ppOf ++ _
    rw [h.eq, ho]
    simp
  · show a.names ++ _ = nl ++ _
    rw [h.neq, ho]
    simp
theorem headE_lt {ws : List Wd} {i : Nat} {ns : List Int} (h : headE ws (i + 1) = .ok ns) : i < ws.length := by
  by_cases hi : i < ws.length
  · exact hi
  · exfalso
    rw [headE_step, List.getElem?_eq_none (by omega)] at h
    cases h7 : headE ws i with
    | error e => simp only [h7] at h; cases h
    | ok q => simp only [h7] at h; cases h
/-- what stands while head writes -/
structure HK (w W : World) (B f nb : Nat) (ns : List Int) (r : Rv) : Prop where
  fr : FrB B none w W
  rx : RX W B r
  ft : FB W f (.int .i64 0) (.int .i64 0) (.int .i64 0)
  ar : W.heap[nb]? = some (.cells (arrN ns) 106 (0, 0))
theorem HK.below {w W W' : World} {B f nb : Nat} {ns : List Int} {r : Rv} (h : HK w W B f nb ns r) (hb : Go.RowKit.Below W.heap.size W W') : HK w W' B f nb ns r :=
  ⟨h.fr.then hb, h.rx.kept hb, (hb.block f (Array.getElem?_eq_some_iff.1 h.ft).1).trans h.ft, (hb.block nb (Array.getElem?_eq_some_iff.1 h.ar).1).trans h.ar⟩
theorem HK.set {w W : World} {B f nb : Nat} {ns : List Int} {r r' : Rv} (h : HK w W B f nb ns r) (j : Nat) (v : Value) (hr : RX (W.setCell ⟨B, j, none⟩ v) B r') : HK w (W.setCell ⟨B, j, none⟩ v) B f nb ns r' :=
  ⟨h.fr.set, hr, (heap_setCell_other _ _ _ _ (h.rx.ne h.ft (by decide))).trans h.ft, (heap_setCell_other _ _ _ _ (h.rx.ne h.ar (by decide))).trans h.ar⟩
theorem HK.nums {w W : World} {B f nb : Nat} {ns : List Int} {r : Rv} (h : HK w W B f nb ns r) : W.cell? ⟨nb, 3, none⟩ = some (.int .i64 (ns.getD 0 0)) ∧ W.cell? ⟨nb, 5, none⟩ = some (.int .i64 (ns.getD 1 0)) ∧ W.cell? ⟨nb, 7, none⟩ = some (.int .i64 (ns.getD 2 0)) ∧ W.cell? ⟨nb, 9, none⟩ = some (.int .i64 (ns.getD 3 0)) := by
  unfold World.cell?
  rw [h.ar]
  exact ⟨rfl, rfl, rfl, rfl⟩
end Go.Proofs.YtiiplikmoodfnaaGreatDoor
/-
  THE WALK OF THE DOCUMENT's head.
-/
namespace Go.Proofs.YtiiplikmoodfnaaGreatDoor
open Go.RowKit Go.Sort

def hdRes (a : As) (line : Nat) (ws : List Wd) : Except (Nat × Nat × Int) As :=
  match firstA a line ws with
  | .error e => .error (line, e)
  | .ok a' => .ok a'
theorem hdRes_err {a : As} {line : Nat} {ws : List Wd} {e : Er} {i : Nat} (hi : i ≤ 10) (h : headE ws i = .error e) : hdRes a line ws = .error (line, e) := by
  unfold hdRes
  rw [first_head]
  unfold headA
  rw [show (10 : Nat) = i + (10 - i) by omega, headE_err h (10 - i)]
set_option maxRecDepth 100000 in
set_option maxHeartbeats 4000000 in
theorem head_any (w : World) (M B : Nat) (a : As) (Qs : List Pr) (nl : List (Nat × Nat)) (Lo : List K) (r : Rv) (b off n wcc : Nat) (ws : List Wd) (h : DS w M B a Qs nl Lo r) (ho : a.opn = false) (hw : ∀ j u, (wcs ws)[j]? = some u → w.cell? ⟨b, off + j, none⟩ = some u) (hn : n = ws.length) (hne : ws ≠ []) (hxl : ∀ y ∈ ws, y.1.length ≤ 65536 ∧ y.2 ≤ 65537) (hnl : n ≤ 1000000) (hbM : b < M ∧ b ≠ B) :
    Calls Tryz.prog 19 #[.pointer (some ⟨B, 0, none⟩), .slice (some ⟨b, off, none⟩) n wcc] w fun e w' => RdPost w M B r (hdRes a r.line ws) e w' := by
  obtain ⟨w1, hw1⟩ : ∃ w1, w1 = ((w.alloc (.cells #[.int .i64 0, .int .i64 0, .int .i64 0] 24)).alloc (.cells #[.string ⟨#[112, 114, 111, 99]⟩, .string ⟨#[]⟩, .string ⟨#[97, 114, 103, 115]⟩, .string ⟨#[]⟩, .string ⟨#[114, 101, 97, 100, 115]⟩, .string ⟨#[]⟩, .string ⟨#[119, 114, 105, 116, 101, 115]⟩, .string ⟨#[]⟩, .string ⟨#[108, 111, 99, 97, 108, 115]⟩, .string ⟨#[]⟩] 105)).alloc (.cells #[.int .i64 0, .int .i64 0, .int .i64 0, .int .i64 0, .int .i64 0, .int .i64 0, .int .i64 0, .int .i64 0, .int .i64 0, .int .i64 0] 106) := ⟨_, rfl⟩
  obtain ⟨f, hf⟩ : ∃ f, f = w.heap.size := ⟨_, rfl⟩
  obtain ⟨fb, hfb⟩ : ∃ fb, fb = w.heap.size + 1 := ⟨_, rfl⟩
  obtain ⟨nb, hnb⟩ : ∃ nb, nb = w.heap.size + 1 + 1 := ⟨_, rfl⟩
  have hM : M ≤ w.heap.size := h.bm.2
  have hBM : B < M := h.bm.1
  have hb1 : Go.RowKit.Below w.heap.size w w1 := by
    rw [hw1]
    exact ((bel_al _ _).trans ((bel_al _ _).mono (by simp))).trans ((bel_al _ _).mono (by simp; omega))
  have hA : FB w1 f (.int .i64 0) (.int .i64 0) (.int .i64 0) ∧ w1.heap[fb]? = some (.cells arrF 105 (0, 0)) ∧ w1.heap[nb]? = some (.cells (arrN []) 106 (0, 0)) := by
    rw [hw1, hf, hfb, hnb]
    refine ⟨?_, ?_, ?_⟩
    · exact (heap_alloc_old _ _ (by simp; omega)).trans ((heap_alloc_old _ _ (by simp)).trans (heap_alloc_new _ _ rfl))
    · exact (heap_alloc_old _ _ (by simp)).trans (heap_alloc_new _ _ (by simp))
    · exact heap_alloc_new _ _ (by simp)
  have HFs := hidA hf
  have HNe : Hid (f ≠ fb ∧ f ≠ nb ∧ fb ≠ nb ∧ B ≠ nb ∧ b ≠ nb ∧ w.heap.size ≤ nb) := by rw [Hid, hf, hfb, hnb]; exact ⟨by omega, by omega, by omega, by omega, by omega, by omega⟩
  have HWc : Hid (∀ W', FrB B none w W' → ∀ j u, (wcs ws)[j]? = some u → W'.cell? ⟨b, off + j, none⟩ = some u) := fun W' hfr j u hu => by
    have h9 := hw j u hu
    simp only [World.cell?] at h9 ⊢
    rw [hfr.block b (by omega) hbM.2 (by simp)]
    exact h9
  have HD := hidA h
  have HO := hidA ho
  have HXl := hidA hxl
  have HN := hidA hn
  have HR1 : Hid (RX w1 B r) := h.rx.kept hb1
  have HFr1 : Hid (FrB B none w w1) := FrB.ofB hb1
  have HNl : Hid (∀ g, r.names.ownBlock = some g → g < w.heap.size) := fun g hg => (World.ownsRow.lt h.nms g hg).2
  have HA := hidA hA
  have hn1 : 1 ≤ n := by rw [hn]; exact List.length_pos_iff.2 hne
  clear h ho hw hn hne hxl hb1 hA
  go_enter Tryz.func19, Tryz.ntmps19
  go_upto_region 3 with fail
  rw [← hw1, ← hnb, ← hfb, ← hf]
  clear hw1 hnb hfb hf
  go_wp2_with fail
  go_loopw [7, 8, 9] (fun x _ _ wr => ∃ (i : Nat) (ns : List Int), i ≤ 10 ∧ x = .int .i64 (i : Int) ∧ Hid (headE ws i = .ok ns) ∧ Hid (FrB B none w wr) ∧ Hid (RX wr B r) ∧ Hid (FB wr f (.int .i64 0) (.int .i64 0) (.int .i64 0)) ∧ Hid (wr.heap[fb]? = some (.cells arrF 105 (0, 0))) ∧ Hid (wr.heap[nb]? = some (.cells (arrN ns) 106 (0, 0)))) (fun x _ _ _ => 10 - (intOf x).toNat)
  case atStart => exact ⟨0, [], by omega, rfl, rfl, HFr1, HR1, HA.out.1, HA.out.2.1, HA.out.2.2⟩
  case round =>
    clear HFr1 HR1 HA
    obtain ⟨i, ns, hi, rfl, HE0, HFr, HRx, HFb, HAf, HAn⟩ := hrel
    have HWx := HWc.out wr HFr.out
    by_cases hlt : i < 10
    · by_cases hin : i < n
      · have hil : i < ws.length := by have := HN.out; omega
        obtain ⟨d0, d1⟩ := wd_at HWx i hil
        have HSt := hidA (headE_step ws i)
        rw [HE0.out, List.getElem?_eq_getElem hil] at HSt
        have HXx : Hid (ws[i].1.length ≤ 65536) := (HXl.out _ (List.getElem_mem hil)).1
        generalize ws[i] = x at *
        clear HWx hil
        obtain ⟨sf, hsf⟩ : ∃ sf, sf = S (fxN i) := ⟨_, rfl⟩
        obtain ⟨sx, hsx⟩ : ∃ sx, sx = S x.1 := ⟨_, rfl⟩
        have cf : wr.cell? ⟨fb, i, none⟩ = some (.string sf) := by
          unfold World.cell?
          rw [HAf.out, hsf]
          exact arrF_at i hlt
        rw [← hsx] at d0
        have hsfl : sf.toList = fxN i := by rw [hsf]; exact S_toList _
        have hsxl : sx.toList = x.1 := by rw [hsx]; exact S_toList _
        have HSx := hidA hsx
        clear hsf hsx
        have hini : ¬ ((n : Int) ≤ (i : Int)) := by omega
        by_cases hfx : fxN i = []
        · have he1 : (sf.toList == []) = true := by rw [hsfl, hfx]; rfl
          go_upto_region 8 with fail
          go_quiet (fail)
          obtain ⟨wq, hwq⟩ : ∃ wq, wq = wr.drewN nq := ⟨_, rfl⟩
          have hbq : Go.RowKit.Below wr.heap.size wr wq := by rw [hwq]; exact bel_drewN wr nq
          rw [← hwq]
          clear hwq
          have cf' : wq.cell? ⟨fb, i, none⟩ = some (.string sf) := (hbq.cell (p := ⟨fb, i, none⟩) (cell_lt cf)).trans cf
          have d0' : wq.cell? ⟨b, off + i * 2, none⟩ = some (.string sx) := (hbq.cell (p := ⟨b, off + i * 2, none⟩) (cell_lt d0)).trans d0
          have d1' : wq.cell? ⟨b, off + i * 2 + 1, none⟩ = some (.int .i64 (x.2 : Int)) := (hbq.cell (p := ⟨b, off + i * 2 + 1, none⟩) (cell_lt d1)).trans d1
          have HFr' : Hid (FrB B none w wq) := HFr.out.then hbq
          have HRx' : Hid (RX wq B r) := HRx.out.kept hbq
          have HFb' : Hid (FB wq f (.int .i64 0) (.int .i64 0) (.int .i64 0)) := (hbq.block f (Array.getElem?_eq_some_iff.1 HFb.out).1).trans HFb.out
          have HAf' : Hid (wq.heap[fb]? = some (.cells arrF 105 (0, 0))) := (hbq.block fb (Array.getElem?_eq_some_iff.1 HAf.out).1).trans HAf.out
          have HAn' : Hid (wq.heap[nb]? = some (.cells (arrN ns) 106 (0, 0))) := (hbq.block nb (Array.getElem?_eq_some_iff.1 HAn.out).1).trans HAn.out
          clear cf d0 d1 HFr HRx HFb HAf HAn hbq
          have cf := cf'
          have d0 := d0'
          have d1 := d1'
          have HFr := HFr'
          have HRx := HRx'
          have HFb := HFb'
          have HAf := HAf'
          have HAn := HAn'
          clear cf' d0' d1' HFr' HRx' HFb' HAf' HAn'
          generalize wq = wr at *
          by_cases hi1 : 1 < i
          · have hi1' : (1 : Int) < (i : Int) := by omega
            have HNu := hidA (refNumber_any wr sx (by unfold maxLen; have := HXx.out; rw [HSx.out, S_size]; omega))
            rw [show sx.data.toList = x.1 by rw [HSx.out]; exact S_data _, ← Dec.num_same] at HNu
            clear hsfl hsxl
            go_wp2_with fail
            refine HNu.out.mono ?_
            rintro e w5 ⟨rfl, hb5⟩
            have d1' : w5.cell? ⟨b, off + i * 2 + 1, none⟩ = some (.int .i64 (x.2 : Int)) := (hb5.cell (p := ⟨b, off + i * 2 + 1, none⟩) (cell_lt d1)).trans d1
            have HFr' : Hid (FrB B none w w5) := HFr.out.then hb5
            have HRx' : Hid (RX w5 B r) := HRx.out.kept hb5
            have HFb' : Hid (FB w5 f (.int .i64 0) (.int .i64 0) (.int .i64 0)) := (hb5.block f (Array.getElem?_eq_some_iff.1 HFb.out).1).trans HFb.out
            have HAf' : Hid (w5.heap[fb]? = some (.cells arrF 105 (0, 0))) := (hb5.block fb (Array.getElem?_eq_some_iff.1 HAf.out).1).trans HAf.out
            have HAn' : Hid (w5.heap[nb]? = some (.cells (arrN ns) 106 (0, 0))) := (hb5.block nb (Array.getElem?_eq_some_iff.1 HAn.out).1).trans HAn.out
            clear cf d0 d1 HFr HRx HFb HAf HAn hb5 HNu
            have d1 := d1'
            have HFr := HFr'
            have HRx := HRx'
            have HFb := HFb'
            have HAf := HAf'
            have HAn := HAn'
            clear d1' HFr' HRx' HFb' HAf' HAn'
            cases hnb9 : (Dec.num1 x.1).2 with
            | false =>
              have HE : Hid (hdRes a r.line ws = .error (r.line, x.2, 41)) := hdRes_err (i := i + 1) (by omega) (by rw [HSt.out]; (try simp only); rw [if_neg (by simp [hfx]), if_pos hi1, if_neg (by rw [hnb9]; simp)])
              clear hnb9 HSt
              generalize (Dec.num1 x.1).1 = z at *
              have HBx := hidA (bad_any w5 B r (x.2 : Int) 41 HRx.out)
              go_wp2_with fail
              refine HBx.out.mono ?_
              rintro e w8 ⟨rfl, hb8⟩
              have hF8 : FB w8 f (.int .i64 0) (.int .i64 0) (.int .i64 0) := (hb8.block f (Array.getElem?_eq_some_iff.1 HFb.out).1).trans HFb.out
              obtain ⟨⟨g0, g1, g2⟩, ⟨c0, c1, c2⟩, hst⟩ := ft_facts hF8
              have hld := load_fault (hst (.int .i64 (r.line : Int)) (.int .i64 (x.2 : Int)) (.int .i64 41))
              have HX : Hid (FrO (OO r w.heap.size) B w (((w8.setCell ⟨f, 0, none⟩ (.int .i64 (r.line : Int))).setCell ⟨f, 1, none⟩ (.int .i64 (x.2 : Int))).setCell ⟨f, 2, none⟩ (.int .i64 41))) := ((HFr.out.then hb8).fro (fun g e => by cases e)).trans (fro_ft (.inl (Nat.le_of_eq HFs.out.symm)) _ _ _)
              clear hb8 hst HBx hF8
              go_wp2_with fail
              refine bodyPost_ret (v := ftv (r.line : Int) (x.2 : Int) 41) ?_ rfl ?_
              · simp [results, Tryz.results19, asAddr, hld]
              · exact .inl ⟨_, _, _, HE.out, by decide, rfl, HX.out⟩
            | true =>
              have HE1 : Hid (headE ws (i + 1) = .ok (ns ++ [(Dec.num1 x.1).1])) := by rw [Hid, HSt.out]; (try simp only); rw [if_neg (by simp [hfx]), if_pos hi1, if_pos hnb9]
              clear hnb9 HSt
              generalize (Dec.num1 x.1).1 = z at *
              have hio := fx_odd hfx hi1 hlt
              have hAr := arrN_set (v := z) (headE_len (by omega) HE0.out) hio
              have hnc : ∃ u, w5.cell? ⟨nb, i, none⟩ = some u := by
                unfold World.cell?
                rw [HAn.out]
                rcases hio with rfl | rfl | rfl | rfl <;> exact ⟨_, rfl⟩
              obtain ⟨u, q1⟩ := hnc
              have f1 : w5.frozen? ⟨nb, i, none⟩ = false := frozen_of_row _ _ i _ _ HAn.out
              have oth : ∀ k, k ≠ nb → (w5.setCell ⟨nb, i, none⟩ (.int .i64 z)).heap[k]? = w5.heap[k]? := fun k hk => heap_setCell_other _ _ _ _ hk
              have HAn2 : Hid ((w5.setCell ⟨nb, i, none⟩ (.int .i64 z)).heap[nb]? = some (.cells (arrN (ns ++ [z])) 106 (0, 0))) := by rw [Hid, ← hAr]; exact heap_setCell_same w5 nb i _ _ _ HAn.out
              have HFr2 : Hid (FrB B none w (w5.setCell ⟨nb, i, none⟩ (.int .i64 z))) := ⟨HFr.out.os, HFr.out.tape, HFr.out.output, by simpa using HFr.out.size, fun k hk h1 h2 => (oth k (by have := HNe.out.2.2.2.2.2; omega)).trans (HFr.out.block k hk h1 h2)⟩
              have HRx2 : Hid (RX (w5.setCell ⟨nb, i, none⟩ (.int .i64 z)) B r) := (oth B HNe.out.2.2.2.1).trans HRx.out
              have HFb2 : Hid (FB (w5.setCell ⟨nb, i, none⟩ (.int .i64 z)) f (.int .i64 0) (.int .i64 0) (.int .i64 0)) := (oth f HNe.out.2.1).trans HFb.out
              have HAf2 : Hid ((w5.setCell ⟨nb, i, none⟩ (.int .i64 z)).heap[fb]? = some (.cells arrF 105 (0, 0))) := (oth fb HNe.out.2.2.1).trans HAf.out
              clear HFr HRx HFb HAf HAn hAr hio oth d1
              go_wp2_with fail
              go_roundw
              case rel => exact ⟨i + 1, ns ++ [z], by omega, by go_num, HE1, HFr2, HRx2, HFb2, HAf2, HAn2⟩
              case measure => simp [intOf]; omega
          · have HE1 : Hid (headE ws (i + 1) = .ok ns) := by rw [Hid, HSt.out]; (try simp only); rw [if_neg (by simp [hfx]), if_neg hi1]
            have hi1' : ¬ (1 : Int) < (i : Int) := by omega
            clear hsfl hsxl HSt d0 d1
            go_wp2_with fail
            go_roundw
            case rel => exact ⟨i + 1, ns, by omega, by go_num, HE1, HFr, HRx, HFb, HAf, HAn⟩
            case measure => simp [intOf]; omega
        · have he1 : (sf.toList == []) = false := by rw [hsfl]; simpa using hfx
          by_cases hx : x.1 = fxN i
          · have hb9 : (sx.toList == sf.toList) = true := by rw [hsfl, hsxl, hx]; simp
            have HE1 : Hid (headE ws (i + 1) = .ok ns) := by rw [Hid, HSt.out]; (try simp only); rw [if_pos hfx, if_pos hx]
            clear hsfl hsxl HSt hx hfx
            go_upto_region 8 with fail
            go_quiet (fail)
            obtain ⟨wq, hwq⟩ : ∃ wq, wq = wr.drewN nq := ⟨_, rfl⟩
            have hbq : Go.RowKit.Below wr.heap.size wr wq := by rw [hwq]; exact bel_drewN wr nq
            rw [← hwq]
            clear hwq
            have cf' : wq.cell? ⟨fb, i, none⟩ = some (.string sf) := (hbq.cell (p := ⟨fb, i, none⟩) (cell_lt cf)).trans cf
            have d0' : wq.cell? ⟨b, off + i * 2, none⟩ = some (.string sx) := (hbq.cell (p := ⟨b, off + i * 2, none⟩) (cell_lt d0)).trans d0
            have d1' : wq.cell? ⟨b, off + i * 2 + 1, none⟩ = some (.int .i64 (x.2 : Int)) := (hbq.cell (p := ⟨b, off + i * 2 + 1, none⟩) (cell_lt d1)).trans d1
            have HFr' : Hid (FrB B none w wq) := HFr.out.then hbq
            have HRx' : Hid (RX wq B r) := HRx.out.kept hbq
            have HFb' : Hid (FB wq f (.int .i64 0) (.int .i64 0) (.int .i64 0)) := (hbq.block f (Array.getElem?_eq_some_iff.1 HFb.out).1).trans HFb.out
            have HAf' : Hid (wq.heap[fb]? = some (.cells arrF 105 (0, 0))) := (hbq.block fb (Array.getElem?_eq_some_iff.1 HAf.out).1).trans HAf.out
            have HAn' : Hid (wq.heap[nb]? = some (.cells (arrN ns) 106 (0, 0))) := (hbq.block nb (Array.getElem?_eq_some_iff.1 HAn.out).1).trans HAn.out
            clear cf d0 d1 HFr HRx HFb HAf HAn hbq
            have cf := cf'
            have d0 := d0'
            have d1 := d1'
            have HFr := HFr'
            have HRx := HRx'
            have HFb := HFb'
            have HAf := HAf'
            have HAn := HAn'
            clear cf' d0' d1' HFr' HRx' HFb' HAf' HAn'
            generalize wq = wr at *
            clear d0 d1
            go_wp2_with fail
            go_roundw
            case rel => exact ⟨i + 1, ns, by omega, by go_num, HE1, HFr, HRx, HFb, HAf, HAn⟩
            case measure => simp [intOf]; omega
          · have hb9 : (sx.toList == sf.toList) = false := by rw [hsfl, hsxl]; simpa using hx
            have HE : Hid (hdRes a r.line ws = .error (r.line, x.2, 40)) := hdRes_err (i := i + 1) (by omega) (by rw [HSt.out]; (try simp only); rw [if_pos hfx, if_neg hx])
            clear hsfl hsxl HSt hx hfx
            go_upto_region 8 with fail
            go_quiet (fail)
            obtain ⟨wq, hwq⟩ : ∃ wq, wq = wr.drewN nq := ⟨_, rfl⟩
            have hbq : Go.RowKit.Below wr.heap.size wr wq := by rw [hwq]; exact bel_drewN wr nq
            rw [← hwq]
            clear hwq
            have cf' : wq.cell? ⟨fb, i, none⟩ = some (.string sf) := (hbq.cell (p := ⟨fb, i, none⟩) (cell_lt cf)).trans cf
            have d0' : wq.cell? ⟨b, off + i * 2, none⟩ = some (.string sx) := (hbq.cell (p := ⟨b, off + i * 2, none⟩) (cell_lt d0)).trans d0
            have d1' : wq.cell? ⟨b, off + i * 2 + 1, none⟩ = some (.int .i64 (x.2 : Int)) := (hbq.cell (p := ⟨b, off + i * 2 + 1, none⟩) (cell_lt d1)).trans d1
            have HFr' : Hid (FrB B none w wq) := HFr.out.then hbq
            have HRx' : Hid (RX wq B r) := HRx.out.kept hbq
            have HFb' : Hid (FB wq f (.int .i64 0) (.int .i64 0) (.int .i64 0)) := (hbq.block f (Array.getElem?_eq_some_iff.1 HFb.out).1).trans HFb.out
            have HAf' : Hid (wq.heap[fb]? = some (.cells arrF 105 (0, 0))) := (hbq.block fb (Array.getElem?_eq_some_iff.1 HAf.out).1).trans HAf.out
            have HAn' : Hid (wq.heap[nb]? = some (.cells (arrN ns) 106 (0, 0))) := (hbq.block nb (Array.getElem?_eq_some_iff.1 HAn.out).1).trans HAn.out
            clear cf d0 d1 HFr HRx HFb HAf HAn hbq
            have cf := cf'
            have d0 := d0'
            have d1 := d1'
            have HFr := HFr'
            have HRx := HRx'
            have HFb := HFb'
            have HAf := HAf'
            have HAn := HAn'
            clear cf' d0' d1' HFr' HRx' HFb' HAf' HAn'
            generalize wq = wr at *
            clear d0
            have HBx := hidA (bad_any wr B r (x.2 : Int) 40 HRx.out)
            go_wp2_with fail
            refine HBx.out.mono ?_
            rintro e w8 ⟨rfl, hb8⟩
            have hF8 : FB w8 f (.int .i64 0) (.int .i64 0) (.int .i64 0) := (hb8.block f (Array.getElem?_eq_some_iff.1 HFb.out).1).trans HFb.out
            obtain ⟨⟨g0, g1, g2⟩, ⟨c0, c1, c2⟩, hst⟩ := ft_facts hF8
            have hld := load_fault (hst (.int .i64 (r.line : Int)) (.int .i64 (x.2 : Int)) (.int .i64 40))
            have HX : Hid (FrO (OO r w.heap.size) B w (((w8.setCell ⟨f, 0, none⟩ (.int .i64 (r.line : Int))).setCell ⟨f, 1, none⟩ (.int .i64 (x.2 : Int))).setCell ⟨f, 2, none⟩ (.int .i64 40))) := ((HFr.out.then hb8).fro (fun g e => by cases e)).trans (fro_ft (.inl (Nat.le_of_eq HFs.out.symm)) _ _ _)
            clear hb8 hst HBx hF8
            go_wp2_with fail
            refine bodyPost_ret (v := ftv (r.line : Int) (x.2 : Int) 40) ?_ rfl ?_
            · simp [results, Tryz.results19, asAddr, hld]
            · exact .inl ⟨_, _, _, HE.out, by decide, rfl, HX.out⟩
      · obtain rfl : i = n := by
          by_cases e : i = n
          · exact e
          · exfalso
            have h9 : i ≠ 0 := by omega
            obtain ⟨i', rfl⟩ : ∃ i', i = i' + 1 := ⟨i - 1, by omega⟩
            have h8 := HE0.out
            rw [headE_step, List.getElem?_eq_none (by have := HN.out; omega)] at h8
            cases h7 : headE ws i' with
            | error e => rw [h7] at h8; cases h8
            | ok q => rw [h7] at h8; cases h8
        have hil : i - 1 < ws.length := by have := HN.out; omega
        obtain ⟨d0, d1⟩ := wd_at HWx (i - 1) hil
        have HE : Hid (hdRes a r.line ws = .error (r.line, ws[i - 1].2 + ws[i - 1].1.length, 40)) := hdRes_err (i := i + 1) (by omega) (by
          rw [headE_step, HE0.out, List.getElem?_eq_none (by have := HN.out; omega)]
          simp only
          have h9 : bhN ws i = ws[i - 1].2 + ws[i - 1].1.length := by
            obtain ⟨i', rfl⟩ : ∃ i', i = i' + 1 := ⟨i - 1, by omega⟩
            have h7 : i' < ws.length := by omega
            rw [bhN_succ, List.getElem?_eq_getElem h7]
            rfl
          rw [h9])
        have HXx := hidA (HXl.out _ (List.getElem_mem hil))
        generalize ws[i - 1] = x at *
        have HAfx := hidA (after_any wr x.1 x.2 HXx.out.1 HXx.out.2)
        have HCe : Hid (((x.2 + x.1.length : Nat) : Int) = (x.2 : Int) + (x.1.length : Int)) := by rw [Hid]; push_cast; rfl
        have hmi : ((i - 1 : Nat) : Int) = (i : Int) - 1 := by omega
        have hi2 : ¬ ((i : Int) ≤ (i : Int) - 1) := by omega
        have hi3 : ¬ ((i : Int) - 1 < 0) := by omega
        generalize S x.1 = sx9 at *
        generalize (x.1.length : Int) = xl9 at *
        generalize ((x.2 : Nat) : Int) = xc9 at *
        clear HWx hil hmi
        go_wp2_with fail
        refine HAfx.out.mono ?_
        rintro e w7 ⟨rfl, hb7⟩
        have HFr' : Hid (FrB B none w w7) := HFr.out.then hb7
        have HRx' : Hid (RX w7 B r) := HRx.out.kept hb7
        have HFb' : Hid (FB w7 f (.int .i64 0) (.int .i64 0) (.int .i64 0)) := (hb7.block f (Array.getElem?_eq_some_iff.1 HFb.out).1).trans HFb.out
        clear HFr HRx HFb HAf HAn hb7 HAfx d0 d1
        have HFr := HFr'
        have HRx := HRx'
        have HFb := HFb'
        clear HFr' HRx' HFb'
        have HBx := hidA (bad_any w7 B r (xc9 + xl9) 40 HRx.out)
        go_wp2_with fail
        refine HBx.out.mono ?_
        rintro e w8 ⟨rfl, hb8⟩
        have hF8 : FB w8 f (.int .i64 0) (.int .i64 0) (.int .i64 0) := (hb8.block f (Array.getElem?_eq_some_iff.1 HFb.out).1).trans HFb.out
        obtain ⟨⟨g0, g1, g2⟩, ⟨c0, c1, c2⟩, hst⟩ := ft_facts hF8
        have hld := load_fault (hst (.int .i64 (r.line : Int)) (.int .i64 (xc9 + xl9)) (.int .i64 40))
        have HX : Hid (FrO (OO r w.heap.size) B w (((w8.setCell ⟨f, 0, none⟩ (.int .i64 (r.line : Int))).setCell ⟨f, 1, none⟩ (.int .i64 (xc9 + xl9))).setCell ⟨f, 2, none⟩ (.int .i64 40))) := ((HFr.out.then hb8).fro (fun g e => by cases e)).trans (fro_ft (.inl (Nat.le_of_eq HFs.out.symm)) _ _ _)
        clear hb8 hst HBx hF8
        go_wp2_with fail
        refine bodyPost_ret (v := ftv (r.line : Int) (xc9 + xl9) 40) ?_ rfl ?_
        · simp [results, Tryz.results19, asAddr, hld]
        · exact .inl ⟨_, _, _, HE.out, by decide, by rw [HCe.out], HX.out⟩
    · obtain rfl : i = 10 := by omega
      have HK0 : Hid (HK w wr B f nb ns r) := ⟨HFr.out, HRx.out, HFb.out, HAn.out⟩
      have h9l : 9 < ws.length := headE_lt HE0.out
      by_cases h11 : 10 < n
      · have hil : 10 < ws.length := by have := HN.out; omega
        obtain ⟨d0, d1⟩ := wd_at HWx 10 hil
        have d1' : wr.cell? ⟨b, off + 20 + 1, none⟩ = some (.int .i64 (ws[10].2 : Int)) := d1
        have HE : Hid (hdRes a r.line ws = .error (r.line, ws[10].2, 40)) := by
          rw [Hid]; unfold hdRes; rw [first_head]; unfold headA
          rw [HE0.out, List.getElem?_eq_getElem hil]
        have hn10 : (10 : Int) < (n : Int) := by omega
        have hn10' : ¬ ((n : Int) ≤ 10) := by omega
        generalize ws[10] = x at *
        clear d0 d1 HWx hil h9l
        have HBx := hidA (bad_any wr B r (x.2 : Int) 40 HRx.out)
        go_wp2_with fail
        refine HBx.out.mono ?_
        rintro e w8 ⟨rfl, hb8⟩
        have hF8 : FB w8 f (.int .i64 0) (.int .i64 0) (.int .i64 0) := (hb8.block f (Array.getElem?_eq_some_iff.1 HFb.out).1).trans HFb.out
        obtain ⟨⟨g0, g1, g2⟩, ⟨c0, c1, c2⟩, hst⟩ := ft_facts hF8
        have hld := load_fault (hst (.int .i64 (r.line : Int)) (.int .i64 (x.2 : Int)) (.int .i64 40))
        have HX : Hid (FrO (OO r w.heap.size) B w (((w8.setCell ⟨f, 0, none⟩ (.int .i64 (r.line : Int))).setCell ⟨f, 1, none⟩ (.int .i64 (x.2 : Int))).setCell ⟨f, 2, none⟩ (.int .i64 40))) := ((HFr.out.then hb8).fro (fun g e => by cases e)).trans (fro_ft (.inl (Nat.le_of_eq HFs.out.symm)) _ _ _)
        clear hb8 hst HBx hF8
        go_wp2_with fail
        refine bodyPost_ret (v := ftv (r.line : Int) (x.2 : Int) 40) ?_ rfl ?_
        · simp [results, Tryz.results19, asAddr, hld]
        · exact .inl ⟨_, _, _, HE.out, by decide, rfl, HX.out⟩
      · have hn10 : ¬ (10 : Int) < (n : Int) := by omega
        have hil0 : 0 < ws.length := by omega
        have hil1 : 1 < ws.length := by omega
        have HE : Hid (hdRes a r.line ws = .ok { a with lib := a.lib ++ [⟨ws[1].1, ⟨ns.getD 0 0, ns.getD 1 0, ns.getD 2 0, ns.getD 3 0⟩, []⟩], names := a.names ++ [(r.line, ws[1].2)], opn := true, begun := (r.line, ws[0].2), labels := [], jumps := [] }) := by
          rw [Hid]; unfold hdRes; rw [first_head]; unfold headA
          rw [HE0.out, List.getElem?_eq_none (by have := HN.out; omega)]
          simp only [List.getD_eq_getElem?_getD, List.getElem?_eq_getElem hil0, List.getElem?_eq_getElem hil1, Option.getD_some]
        have HWd : Hid (∀ W', FrB B none w W' → W'.cell? ⟨b, off + 1, none⟩ = some (.int .i64 (ws[0].2 : Int)) ∧ W'.cell? ⟨b, off + 2, none⟩ = some (.string (S ws[1].1)) ∧ W'.cell? ⟨b, off + 2 + 1, none⟩ = some (.int .i64 (ws[1].2 : Int))) := fun W' hfr => ⟨(wd_at (HWc.out W' hfr) 0 hil0).2, (wd_at (HWc.out W' hfr) 1 hil1).1, (wd_at (HWc.out W' hfr) 1 hil1).2⟩
        have HX1 : Hid (ws[1].1.length ≤ 65536) := (HXl.out _ (List.getElem_mem hil1)).1
        have HIn : Hid (NIn ⟨ns.getD 0 0, ns.getD 1 0, ns.getD 2 0, ns.getD 3 0⟩) := by
          have h9 := headE_in HE0.out
          exact ⟨getD_in h9 0, getD_in h9 1, getD_in h9 2, getD_in h9 3⟩
        have hi1 : (1 : Int) < (n : Int) := by have := HN.out; omega
        have hi1' : ¬ ((n : Int) ≤ 1) := by omega
        generalize ws[0] = y0 at *
        generalize ws[1] = y1 at *
        clear HWx h9l hil0 hil1 HFr HRx HFb HAf HAn h11
        have x2 : wr.cell? ⟨B, 2, none⟩ = some (.bool r.opn) := HK0.out.rx.cell 2
        have f2 : wr.frozen? ⟨B, 2, none⟩ = false := frozen_of_row _ _ 2 _ _ HK0.out.rx
        obtain ⟨v1, hv1⟩ : ∃ v1, v1 = wr.setCell ⟨B, 2, none⟩ (.bool true) := ⟨_, rfl⟩
        have HK1 : Hid (HK w v1 B f nb ns { r with opn := true }) := by rw [Hid, hv1]; exact HK0.out.set 2 _ (heap_setCell_same wr B 2 _ _ _ HK0.out.rx)
        have e1 := (HWd.out v1 HK1.out.fr).1
        go_upto_region 18 with fail
        rw [← hv1]
        clear hv1 x2 f2 HK0
        have HBa := hidA (bad_any v1 B { r with opn := true } (y0.2 : Int) 0 HK1.out.rx)
        go_wp2_with fail
        refine HBa.out.mono ?_
        rintro e v2 ⟨rfl, hb2⟩
        have HK2 := hidA (HK1.out.below hb2)
        clear hb2 HBa HK1 e1
        have x3 : v2.cell? ⟨B, 3, none⟩ = some (.int .i64 (r.begun.1 : Int)) := HK2.out.rx.cell 3
        have x4 : v2.cell? ⟨B, 4, none⟩ = some (.int .i64 (r.begun.2 : Int)) := HK2.out.rx.cell 4
        have x5 : v2.cell? ⟨B, 5, none⟩ = some (.int .i64 0) := HK2.out.rx.cell 5
        have f3 : v2.frozen? ⟨B, 3, none⟩ = false := frozen_of_row _ _ 3 _ _ HK2.out.rx
        have f4 : v2.frozen? ⟨B, 4, none⟩ = false := frozen_of_row _ _ 4 _ _ HK2.out.rx
        have f5 : v2.frozen? ⟨B, 5, none⟩ = false := frozen_of_row _ _ 5 _ _ HK2.out.rx
        obtain ⟨v3, hv3⟩ : ∃ v3, v3 = ((v2.setCell ⟨B, 3, none⟩ (.int .i64 (r.line : Int))).setCell ⟨B, 4, none⟩ (.int .i64 (y0.2 : Int))).setCell ⟨B, 5, none⟩ (.int .i64 0) := ⟨_, rfl⟩
        have HK3 : Hid (HK w v3 B f nb ns { r with opn := true, begun := (r.line, y0.2) }) := by
          rw [Hid, hv3]
          have q1 : RX (v2.setCell ⟨B, 3, none⟩ (.int .i64 (r.line : Int))) B { r with opn := true, begun := (r.line, r.begun.2) } := heap_setCell_same v2 B 3 _ _ _ HK2.out.rx
          have q2 : RX ((v2.setCell ⟨B, 3, none⟩ (.int .i64 (r.line : Int))).setCell ⟨B, 4, none⟩ (.int .i64 (y0.2 : Int))) B { r with opn := true, begun := (r.line, y0.2) } := heap_setCell_same _ B 4 _ _ _ q1
          exact ((HK2.out.set 3 _ q1).set 4 _ q2).set 5 _ (heap_setCell_same _ B 5 _ _ _ q2)
        have e2 := (HWd.out v3 HK3.out.fr).2.1
        have x11 : v3.cell? ⟨B, 11, none⟩ = some (.string (S r.name)) := HK3.out.rx.cell 11
        have f11 : v3.frozen? ⟨B, 11, none⟩ = false := frozen_of_row _ _ 11 _ _ HK3.out.rx
        go_upto_region 19 with fail
        rw [← hv3]
        clear hv3 x3 x4 x5 f3 f4 f5 HK2
        obtain ⟨v4, hv4⟩ : ∃ v4, v4 = v3.setCell ⟨B, 11, none⟩ (.string (S y1.1)) := ⟨_, rfl⟩
        have HK4 : Hid (HK w v4 B f nb ns { r with opn := true, begun := (r.line, y0.2), name := y1.1 }) := by rw [Hid, hv4]; exact HK3.out.set 11 _ (heap_setCell_same v3 B 11 _ _ _ HK3.out.rx)
        have e3 := (HWd.out v4 HK4.out.fr).2.2
        go_upto_region 20 with fail
        rw [← hv4]
        clear hv4 x11 f11 HK3 e2
        have HBa := hidA (bad_any v4 B { r with opn := true, begun := (r.line, y0.2), name := y1.1 } (y1.2 : Int) 0 HK4.out.rx)
        go_wp2_with fail
        refine HBa.out.mono ?_
        rintro e v5 ⟨rfl, hb5⟩
        have HK5 := hidA (HK4.out.below hb5)
        clear hb5 HBa HK4 e3
        have x12 : v5.cell? ⟨B, 12, none⟩ = some (.int .i64 (r.nmAt.1 : Int)) := HK5.out.rx.cell 12
        have x13 : v5.cell? ⟨B, 13, none⟩ = some (.int .i64 (r.nmAt.2 : Int)) := HK5.out.rx.cell 13
        have x14 : v5.cell? ⟨B, 14, none⟩ = some (.int .i64 0) := HK5.out.rx.cell 14
        have f12 : v5.frozen? ⟨B, 12, none⟩ = false := frozen_of_row _ _ 12 _ _ HK5.out.rx
        have f13 : v5.frozen? ⟨B, 13, none⟩ = false := frozen_of_row _ _ 13 _ _ HK5.out.rx
        have f14 : v5.frozen? ⟨B, 14, none⟩ = false := frozen_of_row _ _ 14 _ _ HK5.out.rx
        obtain ⟨v6, hv6⟩ : ∃ v6, v6 = ((v5.setCell ⟨B, 12, none⟩ (.int .i64 (r.line : Int))).setCell ⟨B, 13, none⟩ (.int .i64 (y1.2 : Int))).setCell ⟨B, 14, none⟩ (.int .i64 0) := ⟨_, rfl⟩
        have HK6 : Hid (HK w v6 B f nb ns { r with opn := true, begun := (r.line, y0.2), name := y1.1, nmAt := (r.line, y1.2) }) := by
          rw [Hid, hv6]
          have q1 : RX (v5.setCell ⟨B, 12, none⟩ (.int .i64 (r.line : Int))) B { r with opn := true, begun := (r.line, y0.2), name := y1.1, nmAt := (r.line, r.nmAt.2) } := heap_setCell_same v5 B 12 _ _ _ HK5.out.rx
          have q2 : RX ((v5.setCell ⟨B, 12, none⟩ (.int .i64 (r.line : Int))).setCell ⟨B, 13, none⟩ (.int .i64 (y1.2 : Int))) B { r with opn := true, begun := (r.line, y0.2), name := y1.1, nmAt := (r.line, y1.2) } := heap_setCell_same _ B 13 _ _ _ q1
          exact ((HK5.out.set 12 _ q1).set 13 _ q2).set 14 _ (heap_setCell_same _ B 14 _ _ _ q2)
        obtain ⟨m3, m5, m7, m9⟩ := HK6.out.nums
        have x6 : v6.cell? ⟨B, 6, none⟩ = some (.int .i64 r.p.args) := HK6.out.rx.cell 6
        have x7 : v6.cell? ⟨B, 7, none⟩ = some (.int .i64 r.p.reads) := HK6.out.rx.cell 7
        have x8 : v6.cell? ⟨B, 8, none⟩ = some (.int .i64 r.p.writes) := HK6.out.rx.cell 8
        have x9 : v6.cell? ⟨B, 9, none⟩ = some (.int .i64 r.p.locals) := HK6.out.rx.cell 9
        have x10 : v6.cell? ⟨B, 10, none⟩ = some r.code := HK6.out.rx.cell 10
        have f6 : v6.frozen? ⟨B, 6, none⟩ = false := frozen_of_row _ _ 6 _ _ HK6.out.rx
        have f7 : v6.frozen? ⟨B, 7, none⟩ = false := frozen_of_row _ _ 7 _ _ HK6.out.rx
        have f8 : v6.frozen? ⟨B, 8, none⟩ = false := frozen_of_row _ _ 8 _ _ HK6.out.rx
        have f9 : v6.frozen? ⟨B, 9, none⟩ = false := frozen_of_row _ _ 9 _ _ HK6.out.rx
        have f10 : v6.frozen? ⟨B, 10, none⟩ = false := frozen_of_row _ _ 10 _ _ HK6.out.rx
        go_upto_region 21 with fail
        rw [← hv6]
        clear hv6 x12 x13 x14 f12 f13 f14 HK5
        generalize ns.getD 0 0 = n0 at *
        generalize ns.getD 1 0 = n1 at *
        generalize ns.getD 2 0 = n2 at *
        generalize ns.getD 3 0 = n3 at *
        obtain ⟨v7, hv7⟩ : ∃ v7, v7 = ((((v6.setCell ⟨B, 6, none⟩ (.int .i64 n0)).setCell ⟨B, 7, none⟩ (.int .i64 n1)).setCell ⟨B, 8, none⟩ (.int .i64 n2)).setCell ⟨B, 9, none⟩ (.int .i64 n3)).setCell ⟨B, 10, none⟩ (.slice none 0 0) := ⟨_, rfl⟩
        have HK7 : Hid (HK w v7 B f nb ns { r with opn := true, begun := (r.line, y0.2), name := y1.1, nmAt := (r.line, y1.2), p := ⟨n0, n1, n2, n3⟩, code := .slice none 0 0 }) := by
          rw [Hid, hv7]
          have q1 : RX (v6.setCell ⟨B, 6, none⟩ (.int .i64 n0)) B { r with opn := true, begun := (r.line, y0.2), name := y1.1, nmAt := (r.line, y1.2), p := ⟨n0, r.p.reads, r.p.writes, r.p.locals⟩ } := heap_setCell_same v6 B 6 _ _ _ HK6.out.rx
          have q2 : RX ((v6.setCell ⟨B, 6, none⟩ (.int .i64 n0)).setCell ⟨B, 7, none⟩ (.int .i64 n1)) B { r with opn := true, begun := (r.line, y0.2), name := y1.1, nmAt := (r.line, y1.2), p := ⟨n0, n1, r.p.writes, r.p.locals⟩ } := heap_setCell_same _ B 7 _ _ _ q1
          have q3 : RX (((v6.setCell ⟨B, 6, none⟩ (.int .i64 n0)).setCell ⟨B, 7, none⟩ (.int .i64 n1)).setCell ⟨B, 8, none⟩ (.int .i64 n2)) B { r with opn := true, begun := (r.line, y0.2), name := y1.1, nmAt := (r.line, y1.2), p := ⟨n0, n1, n2, r.p.locals⟩ } := heap_setCell_same _ B 8 _ _ _ q2
          have q4 : RX ((((v6.setCell ⟨B, 6, none⟩ (.int .i64 n0)).setCell ⟨B, 7, none⟩ (.int .i64 n1)).setCell ⟨B, 8, none⟩ (.int .i64 n2)).setCell ⟨B, 9, none⟩ (.int .i64 n3)) B { r with opn := true, begun := (r.line, y0.2), name := y1.1, nmAt := (r.line, y1.2), p := ⟨n0, n1, n2, n3⟩ } := heap_setCell_same _ B 9 _ _ _ q3
          exact ((((HK6.out.set 6 _ q1).set 7 _ q2).set 8 _ q3).set 9 _ q4).set 10 _ (heap_setCell_same _ B 10 _ _ _ q4)
        have x15 : v7.cell? ⟨B, 15, none⟩ = some r.marks := HK7.out.rx.cell 15
        have f15 : v7.frozen? ⟨B, 15, none⟩ = false := frozen_of_row _ _ 15 _ _ HK7.out.rx
        have x16 : v7.cell? ⟨B, 16, none⟩ = some r.uses := HK7.out.rx.cell 16
        have f16 : v7.frozen? ⟨B, 16, none⟩ = false := frozen_of_row _ _ 16 _ _ HK7.out.rx
        go_upto_region 22 with fail
        rw [← hv7]
        clear hv7 m3 m5 m7 m9 x6 x7 x8 x9 x10 f6 f7 f8 f9 f10 HK6
        obtain ⟨v8, hv8⟩ : ∃ v8, v8 = (v7.setCell ⟨B, 15, none⟩ (.slice none 0 0)).setCell ⟨B, 16, none⟩ (.slice none 0 0) := ⟨_, rfl⟩
        have HK8 : Hid (HK w v8 B f nb ns { r with opn := true, begun := (r.line, y0.2), p := ⟨n0, n1, n2, n3⟩, code := .slice none 0 0, name := y1.1, nmAt := (r.line, y1.2), marks := .slice none 0 0, uses := .slice none 0 0 }) := by
          rw [Hid, hv8]
          have q1 : RX (v7.setCell ⟨B, 15, none⟩ (.slice none 0 0)) B { r with opn := true, begun := (r.line, y0.2), p := ⟨n0, n1, n2, n3⟩, code := .slice none 0 0, name := y1.1, nmAt := (r.line, y1.2), marks := .slice none 0 0 } := heap_setCell_same v7 B 15 _ _ _ HK7.out.rx
          exact (HK7.out.set 15 _ q1).set 16 _ (heap_setCell_same _ B 16 _ _ _ q1)
        go_upto_region 24 with fail
        rw [← hv8]
        clear hv8 x15 x16 f15 f16 HK7
        have HDh := hidA (HD.out.head HO.out y1.1 ⟨n0, n1, n2, n3⟩ (r.line, y0.2) (r.line, y1.2) HIn.out HX1.out HK8.out.rx HK8.out.fr)
        obtain ⟨⟨g0, g1, g2⟩, ⟨c0, c1, c2⟩, hst⟩ := ft_facts HK8.out.ft
        have hld := load_fault (hst (.int .i64 0) (.int .i64 0) (.int .i64 0))
        have HX : Hid (RdPost w M B r (hdRes a r.line ws) (.returned (ftv 0 0 0)) (((v8.setCell ⟨f, 0, none⟩ (.int .i64 0)).setCell ⟨f, 1, none⟩ (.int .i64 0)).setCell ⟨f, 2, none⟩ (.int .i64 0))) :=
          .inr ⟨_, Qs, nl, _, _, HE.out, rfl, HDh.out.ft HK8.out.ft (fun g hg => by have := HNl.out g hg; have := HFs.out; omega) _ _ _, rfl, (HK8.out.fr.fro (fun g e => by cases e)).trans (fro_ft (.inl (Nat.le_of_eq HFs.out.symm)) _ _ _), fun g hg => .inl hg⟩
        clear hst HDh HK8
        go_wp2_with fail
        refine bodyPost_ret (v := ftv 0 0 0) ?_ rfl ?_
        · simp [results, Tryz.results19, asAddr, hld]
        · exact HX.out
end Go.Proofs.YtiiplikmoodfnaaGreatDoor
