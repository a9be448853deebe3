import Derived.Test.YtmkomfbjgmgemaaGreatDoorJAWorks
import Derived.Test.YtmkomfbjgmgemaaGreatDoorJACol
import Derived.Test.YtmkomfbjgmgemaaGreatDoorRows
import Derived.LaidLaws
import Derived.LaidHandle
import Derived.Lib.LaidTab
import Derived.Stop.LaidErr
import Derived.Stop.Joined
/-
  AsmFirst: THE LAW's WALK.
-/
namespace Go.Proofs.YtmkomfbjgmgemaaGreatDoor
open Go.RowKit Go.Sort

/-- which numbers an error has that is found at the text's end, or there is none -/
def EndN (n : Int) : Prop := n = 45 ∨ CkR n
/-- what Assemble leaves, for this law -/
def FstPost (w : World) (l : List UInt8) (e : Ending) (w' : World) : Prop :=
  ∃ x v, e = .returned (.tuple #[x, v]) ∧ Go.RowKit.Below w.heap.size w w' ∧
    ((∃ E, linesA (splitN l) (splitN l).length = .error E ∧ ErrAt w' v E.1 E.2.1 E.2.2) ∨ ((∀ E, linesA (splitN l) (splitN l).length ≠ .error E) ∧ (v = .nilIface ∨ ∃ line col n, ErrAt w' v line col n ∧ EndN n)))
theorem fst_post {w w' : World} {l : List UInt8} {e : Ending} (h : AsmPost w l e w') : FstPost w l e w' := by
  rcases h with ⟨v, E, h1, h2, h3, h4⟩ | ⟨M, B, line, a, Ps, vl, vn, vm, vj, W3, h1, h2, h3, h4, h5⟩
  · exact ⟨_, v, h1, h4, .inl ⟨E, h2, h3⟩⟩
  · have hne : ∀ E, linesA (splitN l) (splitN l).length ≠ .error E := fun E hE => by rw [h1] at hE; cases hE
    rcases h5 with ⟨v, h6, _, h7, _⟩ | ⟨v, h6, ho, _, h7, _⟩ | ⟨h6, _, _, _⟩
    · exact ⟨_, v, h6, h4, .inr ⟨hne, .inr ⟨_, _, _, h7, .inl rfl⟩⟩⟩
    · exact ⟨_, v, h6, h4, .inr ⟨hne, .inr ⟨_, _, _, h7, .inr (read_r h1 ho h2.eq)⟩⟩⟩
    · exact ⟨_, _, h6, h4, .inr ⟨hne, .inl rfl⟩⟩
/-- the fault of an answer -/
def FltAt (w : World) (v : Value) (line col : Nat) (n : Int) : Prop := ∀ W', Go.RowKit.Below w.heap.size w W' → Calls Tryz.prog 7 #[v] W' fun e w' => e = .returned (.agg #[.int .i64 (line : Int), .int .i64 (col : Int), .int .i64 n]) ∧ Go.RowKit.Below W'.heap.size W' w'
theorem flt_err {w : World} {v : Value} {line col : Nat} {n : Int} (h : ErrAt w v line col n) (he : ErrVar w) (hB : 8 ≤ w.heap.size) : FltAt w v line col n := fun W' hb => fault_any W' v line col n (h.kept hb) (he.bel hb hB) (by have := hb.size; omega)
theorem flt_nil (w : World) : FltAt w .nilIface 0 0 0 := fun W' _ => faultNil_any W'
theorem fault_cells {W : World} {b : Nat} {x y z : Value} (h : FB W b x y z) : W.cell? ⟨b, 0, none⟩ = some x ∧ W.cell? ⟨b, 1, none⟩ = some y ∧ W.cell? ⟨b, 2, none⟩ = some z := by
  refine ⟨?_, ?_, ?_⟩ <;> simp [World.cell?, show W.heap[b]? = _ from h]
set_option maxRecDepth 100000 in
set_option maxHeartbeats 2000000 in
theorem lawFirst (w : World) (t u : List UInt8) (ht : t.length ≤ 140737488351232) (hu : u.length ≤ 140737488351232) (hv : NumVars w) (hs : Vs w) (he : ErrVar w) (hB : 8 ≤ w.heap.size) :
    Calls Tryz.prog 3 #[.string (S t), .string (S u)] w fun e w' => e = .returned (.bool true) ∧ Go.RowKit.Below w.heap.size w w' := by
  have hst : (S t).size = t.length := S_size t
  have hsu : (S u).size = u.length := S_size u
  have HW := hidA (works_any w hv hs he hB)
  have HAs : Hid (∀ W', Go.RowKit.Below w.heap.size w W' → ∀ l : List UInt8, l.length ≤ 65536 → Calls Tryz.prog 6 #[.string (S l)] W' fun e w' => FstPost W' l e w') := fun W' hb l hl => (assemble_any W' l hl (hv.kept hb) (hs.kept hb).nm (nw_kw (hs.kept hb).nw) (he.bel hb hB) (by have := hb.size; omega)).mono fun _ _ h => fst_post h
  have HE : Hid (∀ W', Go.RowKit.Below w.heap.size w W' → ErrVar W' ∧ 8 ≤ W'.heap.size) := fun W' hb => ⟨he.bel hb hB, by have := hb.size; omega⟩
  clear hv hs he hB
  obtain ⟨tx, htx⟩ : ∃ tx, tx = S t := ⟨_, rfl⟩
  obtain ⟨ux, hux⟩ : ∃ ux, ux = S u := ⟨_, rfl⟩
  rw [← htx] at hst ⊢
  rw [← hux] at hsu ⊢
  have HT := hidA htx
  have HU := hidA hux
  clear htx hux
  go_enter Tryz.func3, Tryz.ntmps3
  go_wp2_with fail
  refine HW.out.mono ?_
  rintro e w1 ⟨rfl, hb1⟩
  have HB1 := hidA hb1
  clear hb1 HW
  obtain ⟨tn, htn⟩ : ∃ tn, tn = t.length := ⟨_, rfl⟩
  obtain ⟨un, hun⟩ : ∃ un, un = u.length := ⟨_, rfl⟩
  rw [← htn] at hst ht
  rw [← hun] at hsu hu
  have HTn := hidA htn
  have HUn := hidA hun
  clear htn hun
  by_cases hlen : (65536 : Int) < (tn : Int) + (un : Int) + 1
  · go_wp2
    go_ret
    exact ⟨rfl, HB1.out⟩
  have HA1 := hidA (HAs.out w1 HB1.out t (by have := HTn.out; omega))
  rw [← HT.out] at HA1
  have HA2 : Hid (∀ W', Go.RowKit.Below w.heap.size w W' → Calls Tryz.prog 6 #[.string (tx ++ ⟨#[10]⟩ ++ ux)] W' fun e w' => FstPost W' (t ++ 10 :: u) e w') := fun W' hb => by
    have h := HAs.out W' hb (t ++ 10 :: u) (by have := HTn.out; have := HUn.out; simp; omega)
    rw [show S (t ++ 10 :: u) = tx ++ ⟨#[10]⟩ ++ ux by rw [HT.out, HU.out, show (⟨#[10]⟩ : ByteArray) = S [10] from rfl, S_app, S_app, List.append_assoc]; rfl] at h
    exact h
  have hs10 : (tx ++ (⟨#[10]⟩ : ByteArray)).size = tn + 1 := by rw [HT.out, show (⟨#[10]⟩ : ByteArray) = S [10] from rfl, S_app, S_size, HTn.out]; simp
  have hsz1 : (⟨#[10]⟩ : ByteArray).size = 1 := rfl
  have hlen' : (tn : Int) + (un : Int) < 65536 := by omega
  have HL := hidA hlen'
  have hf1 : ¬ (tx.size + (⟨#[10]⟩ : ByteArray).size > 9223372036854775807) := by omega
  have hf2 : ¬ ((tx ++ (⟨#[10]⟩ : ByteArray)).size + ux.size > 9223372036854775807) := by omega
  have HF12 := hidA (And.intro hf1 hf2)
  have HT3 := hidA (And.intro ht hu)
  clear HAs hlen hs10 hsz1 hf1 hf2
  have hd1 : decide ((65536 : Int) ≤ (tn : Int) + (un : Int)) = false := decide_eq_false (by omega)
  have hd2 : decide ((65536 : Int) < (tn : Int) + (un : Int) + 1) = false := decide_eq_false (by omega)
  clear hlen'
  go_wp2_with fail
  refine HA1.out.mono ?_
  rintro e w2 ⟨x1, v1, rfl, hb2, hc1⟩
  have HB2 : Hid (Go.RowKit.Below w.heap.size w w2) := HB1.out.trans (hb2.mono HB1.out.size)
  have HC1 := hidA hc1
  clear hb2 hc1 HA1 HB1
  go_upto_region 6 with fail
  obtain ⟨nl, hnl⟩ : ∃ nl : ByteArray, nl = ⟨#[10]⟩ := ⟨_, rfl⟩
  rw [← hnl]
  rw [← hnl] at HF12 HA2
  obtain ⟨hf1, hf2⟩ := HF12.out
  have hf3 : ¬ (tx.size + nl.size + ux.size > 9223372036854775807) := by rw [ByteArray.size_append] at hf2; exact hf2
  clear hnl hd1 hd2 ht hu HF12 hf2
  go_wp2_with fail
  refine (HA2.out w2 HB2.out).mono ?_
  rintro e w3 ⟨x2, v2, rfl, hb3, hc2⟩
  have HB3 : Hid (Go.RowKit.Below w.heap.size w w3) := HB2.out.trans (hb3.mono HB2.out.size)
  have hk : ∃ line col n, FltAt w3 v1 line col n ∧ (EndN n ∨ (1 ≤ line ∧ 1 ≤ col ∧ (n = 33 ∨ n = 40 ∨ n = 41 ∨ n = 42 ∨ n = 43) ∧ FltAt w3 v2 line col n)) := by
    obtain ⟨q1, q2⟩ := HE.out w3 HB3.out
    rcases HC1.out with ⟨E, h1, h2⟩ | ⟨_, h | ⟨line, col, n, h1, h2⟩⟩
    · obtain ⟨r1, r2, r3⟩ := lines_err h1
      have h3 := first_stays t u h1
      rcases hc2 with ⟨E2, h4, h5⟩ | ⟨h4, _⟩
      · rw [h3] at h4
        simp only [Except.error.injEq] at h4
        subst h4
        exact ⟨_, _, _, flt_err (h2.kept hb3) q1 q2, .inr ⟨r1, r2, r3, flt_err h5 q1 q2⟩⟩
      · exact absurd h3 (h4 E)
    · subst h
      exact ⟨0, 0, 0, flt_nil w3, .inl (.inr (.inl rfl))⟩
    · exact ⟨_, _, _, flt_err (h1.kept hb3) q1 q2, .inl h2⟩
  clear hb3 hc2 HC1 HB2 HA2 hst hsu hf1 hf3 HT HU HTn HUn HL HT3
  obtain ⟨line, col, n, hf, hor⟩ := hk
  have HF := hidA hf
  clear hf
  go_wp2_with fail
  refine (HF.out w3 (Below.refl _ _)).mono ?_
  rintro e w4 ⟨rfl, hb4⟩
  have HB4 : Hid (Go.RowKit.Below w3.heap.size w3 w4) := hb4
  have HB4' : Hid (Go.RowKit.Below w.heap.size w w4) := HB3.out.trans (hb4.mono HB3.out.size)
  clear hb4 HF HE
  rcases hor with hE | ⟨h1, h2, h5, hf2⟩
  · have HX : Hid (Go.RowKit.Below w.heap.size w (w4.alloc (.cells #[.int .i64 (line : Int), .int .i64 (col : Int), .int .i64 n] 29))) := HB4'.out.trans ((bel_al _ _).mono HB4'.out.size)
    clear HB4 HB4' HB3
    rcases hE with rfl | rfl | rfl | rfl | rfl | rfl | rfl | rfl
    all_goals
      go_wp2_with fail
      go_ret
      exact ⟨rfl, HX.out⟩
  · obtain ⟨W5, hW5⟩ : ∃ W5, W5 = w4.alloc (.cells #[.int .i64 (line : Int), .int .i64 (col : Int), .int .i64 n] 29) := ⟨_, rfl⟩
    obtain ⟨f, hfd⟩ : ∃ f, f = w4.heap.size := ⟨_, rfl⟩
    have hfb : FB W5 f (.int .i64 (line : Int)) (.int .i64 (col : Int)) (.int .i64 n) := by rw [hW5, hfd]; exact heap_alloc_new _ _ rfl
    have hb5 : Go.RowKit.Below w4.heap.size w4 W5 := by rw [hW5]; exact bel_al _ _
    have HCl : Hid (∀ W, Go.RowKit.Below W5.heap.size W5 W → W.cell? ⟨f, 0, none⟩ = some (.int .i64 (line : Int)) ∧ W.cell? ⟨f, 1, none⟩ = some (.int .i64 (col : Int)) ∧ W.cell? ⟨f, 2, none⟩ = some (.int .i64 n)) := fun W hb => fault_cells (show FB W f _ _ _ from (hb.block f (Array.getElem?_eq_some_iff.1 hfb).1).trans hfb)
    have hDr : Go.RowKit.Below W5.heap.size W5 W5.drew := bel_drewN W5 1
    have hb35 : Go.RowKit.Below w3.heap.size w3 W5 := HB4.out.trans (hb5.mono HB4.out.size)
    have HF2 := hidA (hf2 W5.drew (hb35.trans (hDr.mono hb35.size)))
    have HBx : Hid (Go.RowKit.Below w.heap.size w W5.drew) := HB3.out.trans ((hb35.trans (hDr.mono hb35.size)).mono HB3.out.size)
    have HDr := hidA hDr
    have hl1 : (1 : Int) ≤ (line : Int) := by omega
    have hl2 : (1 : Int) ≤ (col : Int) := by omega
    obtain ⟨c0, c1, c2⟩ := HCl.out W5 (Below.refl _ _)
    clear hfb hb5 hDr hb35 hf2 h1 h2 HB4 HB4' HB3
    rcases h5 with rfl | rfl | rfl | rfl | rfl
    · go_upto_region 14 with fail
      rw [← hW5, ← hfd]
      clear hW5 hfd
      go_region_held3 (fun w' => w'.cell? ⟨f, 0, none⟩ = some (.int .i64 (line : Int)) ∧ w'.cell? ⟨f, 1, none⟩ = some (.int .i64 (col : Int)) ∧ w'.cell? ⟨f, 2, none⟩ = some (.int .i64 33)) (first | with_reducible exact HC2.out | go_keep) (first
        | (go_at_call 7; with_reducible refine HF2.out.mono ?_; rintro e w6 ⟨rfl, hb6⟩; have HC2 := hidA (HCl.out w6 (HDr.out.trans (hb6.mono HDr.out.size))); have HB6 := hidA (HBx.out.trans (hb6.mono HBx.out.size)); clear hb6))
      go_wp2_with fail
      go_ret
      exact ⟨rfl, HB6.out⟩
    · go_upto_region 14 with fail
      rw [← hW5, ← hfd]
      clear hW5 hfd
      go_region_held3 (fun w' => w'.cell? ⟨f, 0, none⟩ = some (.int .i64 (line : Int)) ∧ w'.cell? ⟨f, 1, none⟩ = some (.int .i64 (col : Int)) ∧ w'.cell? ⟨f, 2, none⟩ = some (.int .i64 40)) (first | with_reducible exact HC2.out | go_keep) (first
        | (go_at_call 7; with_reducible refine HF2.out.mono ?_; rintro e w6 ⟨rfl, hb6⟩; have HC2 := hidA (HCl.out w6 (HDr.out.trans (hb6.mono HDr.out.size))); have HB6 := hidA (HBx.out.trans (hb6.mono HBx.out.size)); clear hb6))
      go_wp2_with fail
      go_ret
      exact ⟨rfl, HB6.out⟩
    · go_upto_region 14 with fail
      rw [← hW5, ← hfd]
      clear hW5 hfd
      go_region_held3 (fun w' => w'.cell? ⟨f, 0, none⟩ = some (.int .i64 (line : Int)) ∧ w'.cell? ⟨f, 1, none⟩ = some (.int .i64 (col : Int)) ∧ w'.cell? ⟨f, 2, none⟩ = some (.int .i64 41)) (first | with_reducible exact HC2.out | go_keep) (first
        | (go_at_call 7; with_reducible refine HF2.out.mono ?_; rintro e w6 ⟨rfl, hb6⟩; have HC2 := hidA (HCl.out w6 (HDr.out.trans (hb6.mono HDr.out.size))); have HB6 := hidA (HBx.out.trans (hb6.mono HBx.out.size)); clear hb6))
      go_wp2_with fail
      go_ret
      exact ⟨rfl, HB6.out⟩
    · go_upto_region 14 with fail
      rw [← hW5, ← hfd]
      clear hW5 hfd
      go_region_held3 (fun w' => w'.cell? ⟨f, 0, none⟩ = some (.int .i64 (line : Int)) ∧ w'.cell? ⟨f, 1, none⟩ = some (.int .i64 (col : Int)) ∧ w'.cell? ⟨f, 2, none⟩ = some (.int .i64 42)) (first | with_reducible exact HC2.out | go_keep) (first
        | (go_at_call 7; with_reducible refine HF2.out.mono ?_; rintro e w6 ⟨rfl, hb6⟩; have HC2 := hidA (HCl.out w6 (HDr.out.trans (hb6.mono HDr.out.size))); have HB6 := hidA (HBx.out.trans (hb6.mono HBx.out.size)); clear hb6))
      go_wp2_with fail
      go_ret
      exact ⟨rfl, HB6.out⟩
    · go_upto_region 14 with fail
      rw [← hW5, ← hfd]
      clear hW5 hfd
      go_region_held3 (fun w' => w'.cell? ⟨f, 0, none⟩ = some (.int .i64 (line : Int)) ∧ w'.cell? ⟨f, 1, none⟩ = some (.int .i64 (col : Int)) ∧ w'.cell? ⟨f, 2, none⟩ = some (.int .i64 43)) (first | with_reducible exact HC2.out | go_keep) (first
        | (go_at_call 7; with_reducible refine HF2.out.mono ?_; rintro e w6 ⟨rfl, hb6⟩; have HC2 := hidA (HCl.out w6 (HDr.out.trans (hb6.mono HDr.out.size))); have HB6 := hidA (HBx.out.trans (hb6.mono HBx.out.size)); clear hb6))
      go_wp2_with fail
      go_ret
      exact ⟨rfl, HB6.out⟩
end Go.Proofs.YtmkomfbjgmgemaaGreatDoor
/-
  WHAT THE LAID VARIABLES OF A LAW OVER TEXTS GIVE.
-/
namespace Go.Proofs.YtmkomfbjgmgemaaGreatDoor
open Go.ChangeShapes Go.WideShapes Go.ChangeAt Go.RowKit

theorem own : ownKnob Tryz.prog.godebug = none := by kernel_rfl
theorem laidOut : laidOutB Tryz.prog = true := by kernel_rfl
theorem typePow : (Tryz.prog.globals[5]?).map (·.type) = some 167 := by kernel_rfl
theorem cellsPow : Tryz.prog.cellsOf 167 = 20 := by kernel_rfl
theorem cells64 : Tryz.prog.cellsOf 132 = 1 := by kernel_rfl
theorem powEq : (Rows.laid_internal_strconv_uint64pow10 : DataW Unit) = Lib.tabData .u64 Lib.pow10Tab := by kernel_rfl
theorem gTab : Tryz.prog.globalNamed "prelude/lang.names" = some 2 := by kernel_rfl
theorem gTabType : (Tryz.prog.globals[2]?).map (·.type) = some 149 := by kernel_rfl
theorem cellsTab : Tryz.prog.cellsOf 149 = 37 := by kernel_rfl
theorem gNw : Tryz.prog.globalNamed "prelude/asm.numberWords" = some 1 := by kernel_rfl
theorem gNwType : (Tryz.prog.globals[1]?).map (·.type) = some 115 := by kernel_rfl
theorem cellsNw : Tryz.prog.cellsOf 115 = 4 := by kernel_rfl
theorem cellsStr : Tryz.prog.cellsOf 9 = 1 := by kernel_rfl
theorem typeErr1 : (Tryz.prog.globals[4]?).map (·.type) = some 25 := by kernel_rfl
theorem typeErr2 : (Tryz.prog.globals[3]?).map (·.type) = some 25 := by kernel_rfl
theorem cellsE : Tryz.prog.cellsOf 164 = 1 := by kernel_rfl
theorem star : "*" ++ "errors.errorString" = "*errors.errorString" := by decide
theorem rowE (u : TypeId) (h : Tryz.prog.typeName? 3 u = some "*errors.errorString") : u = 162 :=
  typeName_ptr_named (nm := "errors.errorString") (by rw [star]; kernel_rfl) (by kernel_rfl) (by decide) u (by rw [star]; exact h)
theorem et : Tryz.prog.globalNamed "errors.errorType" = some 0 := by kernel_rfl
theorem rt : (Tryz.prog.cutTypes.find? (·.1 == "internal/reflectlite.rtype")).map (·.2) = some 119 := by kernel_rfl
theorem oneRow : ((List.range (211 + 1)).filter fun t => Tryz.prog.rowNamed t [101, 114, 114, 111, 114]) = [25] := by kernel_rfl
theorem tsize : Tryz.prog.types.size = 211 + 1 := by kernel_rfl
/-- AN ARRAY OF TEXTS THAT READS AS THE TABLE HOLDS THE TABLE's TEXTS, CELL FOR CELL. -/
theorem cells_of_strs {H : Type} {enc : TypeId × Value → H} {P : Program} {w : World} {base : Nat} {sp : Nat → Bool} {held : Bool} {fuel : Nat} {t e : TypeId} {n : Nat} {cs : List Value} {zs : List (List UInt8)} {p : List MemPlace}
    (ht : P.underlying t = some (.array n e)) (he : P.underlying e = some .string) (hce : P.cellsOf e = 1) (hct : P.cellsOf t = n)
    (h : DataW.trod enc P w base sp held fuel t cs = some (.agg (zs.map fun z => .lit (.string z)), p)) : cs = zs.map fun z => Value.string ⟨z.toArray⟩ := by
  cases fuel with
  | zero => simp [DataW.trod] at h
  | succ fuel =>
    simp only [DataW.trod, ht, hce, hct, Nat.mul_one] at h
    split at h
    · rename_i hl
      obtain ⟨xs, hm, hx⟩ := Option.map_eq_some_iff.1 h
      have hxs : xs.map (·.1) = zs.map fun z => (DataW.lit (.string z) : DataW H) := by
        have := congrArg Prod.fst hx
        simpa using this
      have hxl : xs.length = n := by simpa using Lib.mapM_length hm
      have hzl : zs.length = n := by
        have := congrArg List.length hxs
        simp at this
        omega
      apply List.ext_getElem?
      intro i
      by_cases hi : i < n
      · obtain ⟨b, hb, hf⟩ := Lib.mapM_at hm i i (by simp [hi])
        obtain ⟨z, hc, rfl, _⟩ := DataW.trod_string he hf
        have h1 : cs[i]? = some (.string z) := by
          have := congrArg (·[0]?) hc
          simpa [List.getElem?_take, List.getElem?_drop] using this
        have h2 : (xs.map (·.1))[i]? = some (DataW.lit (.string z.data.toList) : DataW H) := by simp [hb]
        rw [hxs] at h2
        simp only [List.getElem?_map, Option.map_eq_some_iff, DataW.lit.injEq, Lit.string.injEq] at h2
        obtain ⟨z', hz', e⟩ := h2
        simp [h1, hz', e]
      · rw [List.getElem?_eq_none (by omega), List.getElem?_eq_none (by simp; omega)]
    · cases h
def nmLists : List (List UInt8) := nmL.map fun s => s.data.toList
def nwLists : List (List UInt8) := [nwL 0, nwL 1, nwL 2, nwL 3]
def nwCells : Array Value := (nwLists.map fun z => Value.string ⟨z.toArray⟩).toArray
theorem laid_eq {H : Type} : (Rows.laid_prelude_lang_names : DataW H) = .agg (nmLists.map fun z => .lit (.string z)) := rfl
theorem laid_nw {H : Type} : (Rows.laid_prelude_asm_numberWords : DataW H) = .agg (nwLists.map fun z => .lit (.string z)) := rfl
/-- the plain ones -/
def plainL : List (String × DataW Unit) := [("math/bits.deBruijn32tab", Rows.laid_math_bits_deBruijn32tab), ("math/bits.deBruijn64tab", Rows.laid_math_bits_deBruijn64tab), ("internal/strconv.uint64pow10", Rows.laid_internal_strconv_uint64pow10), ("strconv.ErrRange", Rows.laid_strconv_ErrRange), ("strconv.ErrSyntax", Rows.laid_strconv_ErrSyntax), ("prelude/lang.names", Rows.laid_prelude_lang_names), ("prelude/asm.numberWords", Rows.laid_prelude_asm_numberWords)]
def handL : List (String × DataW Unit) := [("errors.errorType", Rows.laid_errors_errorType)]
theorem handle_of {W : World} (h : handlesMet Tryz.prog handL W) : ErrVar W := by
  obtain ⟨name, u, ty, e1, e2, e3, e4, e5⟩ := h _ (List.mem_singleton.2 rfl)
  have en : name = [101, 114, 114, 111, 114] := (Option.some.inj e1).symm
  subst en
  obtain rfl := Option.some.inj (rt.symm.trans e2)
  have hm : ty ∈ (List.range (211 + 1)).filter fun t => Tryz.prog.rowNamed t [101, 114, 114, 111, 114] := List.mem_filter.2 ⟨List.mem_range.2 (by rw [← tsize]; exact e3), e4⟩
  rw [oneRow] at hm
  obtain rfl := List.mem_singleton.1 hm
  have hh : typeHandle Tryz.prog 25 = .pointer (some ⟨8, 25, none⟩) := by kernel_rfl
  rw [hh] at e5
  unfold ErrVar
  simpa using World.var?_cell et e5 0
theorem vars_of {W : World} (h : laidMet Tryz.prog plainL W) : NumVars W ∧ Vs W := by
  have h2 := laidMet.tail (laidMet.tail h)
  have h3 := laidMet.tail h2
  have h4 := laidMet.tail h3
  have h5 := laidMet.tail h4
  have h6 := laidMet.tail h5
  obtain ⟨a1, _, hv1, _⟩ := laid_sentinel h3 gRange typeErr1 Tryz.underlying25 rowE Tryz.underlying162 Tryz.underlying164 rfl rfl Tryz.underlying9 cellsE cellsStr
  obtain ⟨a2, _, hv2, _⟩ := laid_sentinel h4 gBad typeErr2 Tryz.underlying25 rowE Tryz.underlying162 Tryz.underlying164 rfl rfl Tryz.underlying9 cellsE cellsStr
  have hp := Lib.tabIs_of_head gPow typePow Tryz.underlying167 Tryz.underlying132 cells64 cellsPow (powEq ▸ h2)
  refine ⟨⟨hp, ⟨_, _, hv2⟩, _, _, hv1⟩, ?_, ?_, hp⟩
  · obtain ⟨ps, ⟨g', t', cs, fuel, p, q, hg', ht', hvar, hd, _, _⟩, _⟩ := h5
    obtain rfl := Option.some.inj (gTab.symm.trans hg')
    obtain rfl := Option.some.inj (gTabType.symm.trans ht')
    have e := cells_of_strs (zs := nmLists) Tryz.underlying149 Tryz.underlying9 cellsStr cellsTab hd
    intro i hi
    have h1 := World.var?_cell gTab hvar i
    have h2 := nmCells_get i hi
    have h3 : (nmLists.map fun z => Value.string ⟨z.toArray⟩) = nmCells.toList := rfl
    rw [h3] at e
    rw [h1, ← Array.getElem?_toList, e, Array.getElem?_toList]
    exact h2
  · obtain ⟨ps, ⟨g', t', cs, fuel, p, q, hg', ht', hvar, hd, _, _⟩, _⟩ := h6
    obtain rfl := Option.some.inj (gNw.symm.trans hg')
    obtain rfl := Option.some.inj (gNwType.symm.trans ht')
    have e := cells_of_strs (zs := nwLists) Tryz.underlying115 Tryz.underlying9 cellsStr cellsNw hd
    intro i hi
    have h1 := World.var?_cell gNw hvar i
    rw [h1, ← Array.getElem?_toList, e]
    obtain rfl | rfl | rfl | rfl : i = 0 ∨ i = 1 ∨ i = 2 ∨ i = 3 := by omega
    all_goals rfl
theorem ng_of {W : World} (h : W.ShapedOpen Tryz.prog) : 8 ≤ W.heap.size := by
  obtain ⟨_, h2⟩ := h
  obtain ⟨o, o0, h3, _⟩ := h2 8 (Nat.le_of_eq (by kernel_rfl)) (of_decide_eq_true (by kernel_rfl))
  exact Nat.le_of_lt (Array.getElem?_eq_some_iff.1 h3).1
/-- the numbers of a datum, as cells -/
def vals (d : DataW Unit) : Array Value := match d with
  | .agg ps => (ps.map fun x => match x with
    | .lit (.int k n) => Value.int k n
    | _ => .nilIface).toArray
  | _ => #[]
end Go.Proofs.YtmkomfbjgmgemaaGreatDoor
