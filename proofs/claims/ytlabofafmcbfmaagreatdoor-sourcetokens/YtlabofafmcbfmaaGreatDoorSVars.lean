/-
  WHAT THE LAID VARIABLES OF A SOURCE ROW GIVE. By gen_cardsrc.py.
-/
import Derived.Test.YtlabofafmcbfmaaGreatDoorRows
import Derived.Test.YtlabofafmcbfmaaGreatDoorLawTokH
import Derived.LaidLaws
import Derived.LaidHandle
import Derived.Lib.LaidTab
import Derived.Stop.LaidErr
import Derived.Stop.Joined
import Derived.Lib.LaidU8T
import Derived.Shelf.Vars
namespace Go.Proofs.YtlabofafmcbfmaaGreatDoor
open Go.ChangeShapes Go.WideShapes Go.ChangeAt Go.RowKit

theorem own : ownKnob Tryz.prog.godebug = none := by kernel_rfl
theorem laidOut : laidOutB Tryz.prog = true := by kernel_rfl
theorem typePow : (Tryz.prog.globals[7]?).map (·.type) = some 144 := by kernel_rfl
theorem cellsPow : Tryz.prog.cellsOf 144 = 20 := by kernel_rfl
theorem cells64 : Tryz.prog.cellsOf 61 = 1 := by kernel_rfl
theorem powEq : (Rows.laid_internal_strconv_uint64pow10 : DataW Unit) = Lib.tabData .u64 Lib.pow10Tab := by kernel_rfl
theorem gPairs : Tryz.prog.globalNamed "prelude/source.pairs" = some 1 := by kernel_rfl
theorem gPairsType : (Tryz.prog.globals[1]?).map (·.type) = some 93 := by kernel_rfl
theorem cellsPairs : Tryz.prog.cellsOf 93 = 8 := by kernel_rfl
theorem firstEq : (Rows.laid_unicode_utf8_first : DataW Unit) = Lib.firstData := by kernel_rfl
theorem acceptEq : (Rows.laid_unicode_utf8_acceptRanges : DataW Unit) = Lib.acceptData := by kernel_rfl
theorem laidPairs {H : Type} : (Rows.laid_prelude_source_pairs : DataW H) = .agg (pairL.map fun z => .lit (.string z)) := rfl
theorem u8x : U8Extra Tryz.prog lays197_ren := { n3 := by kernel_rfl, n4 := by kernel_rfl, y3 := by kernel_rfl, y4 := by kernel_rfl, c5 := by kernel_rfl, c119 := by kernel_rfl, c138 := by kernel_rfl }
theorem u8t : U8Types Tryz.prog lays197_ren := U8Types.of260 { lays197 with }
theorem cellsStr : Tryz.prog.cellsOf 9 = 1 := by kernel_rfl
theorem typeErr1 : (Tryz.prog.globals[6]?).map (·.type) = some 28 := by kernel_rfl
theorem typeErr2 : (Tryz.prog.globals[5]?).map (·.type) = some 28 := by kernel_rfl
theorem cellsE : Tryz.prog.cellsOf 142 = 1 := by kernel_rfl
theorem star : "*" ++ "errors.errorString" = "*errors.errorString" := by decide
theorem rowE (u : TypeId) (h : Tryz.prog.typeName? 3 u = some "*errors.errorString") : u = 140 :=
  typeName_ptr_named (nm := "errors.errorString") (by rw [star]; kernel_rfl) (by kernel_rfl) (by decide) u (by rw [star]; exact h)
theorem et : Tryz.prog.globalNamed "errors.errorType" = some 0 := by kernel_rfl
theorem rt : (Tryz.prog.cutTypes.find? (·.1 == "internal/reflectlite.rtype")).map (·.2) = some 96 := by kernel_rfl
theorem oneRow : ((List.range (178 + 1)).filter fun t => Tryz.prog.rowNamed t [101, 114, 114, 111, 114]) = [28] := by kernel_rfl
theorem tsize : Tryz.prog.types.size = 178 + 1 := by kernel_rfl
/-- AN ARRAY OF TEXTS THAT READS AS THE TABLE HOLDS THE TABLE's TEXTS, CELL FOR CELL. -/
theorem cells_of_strs {H : Type} {enc : TypeId × Value → H} {P : Program} {w : World} {base : Nat} {sp : Nat → Bool} {held : Bool} {fuel : Nat} {t e : TypeId} {n : Nat} {cs : List Value} {zs : List (List UInt8)} {p : List MemPlace}
    (ht : P.underlying t = some (.array n e)) (he : P.underlying e = some .string) (hce : P.cellsOf e = 1) (hct : P.cellsOf t = n)
    (h : DataW.trod enc P w base sp held fuel t cs = some (.agg (zs.map fun z => .lit (.string z)), p)) : cs = zs.map fun z => Value.string ⟨z.toArray⟩ := by
  cases fuel with
  | zero => simp [DataW.trod] at h
  | succ fuel =>
    simp only [DataW.trod, ht, hce, hct, Nat.mul_one] at h
    split at h
    · rename_i hl
      obtain ⟨xs, hm, hx⟩ := Option.map_eq_some_iff.1 h
      have hxs : xs.map (·.1) = zs.map fun z => (DataW.lit (.string z) : DataW H) := by
        have := congrArg Prod.fst hx
        simpa using this
      have hxl : xs.length = n := by simpa using Lib.mapM_length hm
      have hzl : zs.length = n := by
        have := congrArg List.length hxs
        simp at this
        omega
      apply List.ext_getElem?
      intro i
      by_cases hi : i < n
      · obtain ⟨b, hb, hf⟩ := Lib.mapM_at hm i i (by simp [hi])
        obtain ⟨z, hc, rfl, _⟩ := DataW.trod_string he hf
        have h1 : cs[i]? = some (.string z) := by
          have := congrArg (·[0]?) hc
          simpa [List.getElem?_take, List.getElem?_drop] using this
        have h2 : (xs.map (·.1))[i]? = some (DataW.lit (.string z.data.toList) : DataW H) := by simp [hb]
        rw [hxs] at h2
        simp only [List.getElem?_map, Option.map_eq_some_iff, DataW.lit.injEq, Lit.string.injEq] at h2
        obtain ⟨z', hz', e⟩ := h2
        simp [h1, hz', e]
      · rw [List.getElem?_eq_none (by omega), List.getElem?_eq_none (by simp; omega)]
    · cases h
/-- the plain ones -/
def plainL : List (String × DataW Unit) := [("math/bits.deBruijn32tab", Rows.laid_math_bits_deBruijn32tab), ("math/bits.deBruijn64tab", Rows.laid_math_bits_deBruijn64tab), ("internal/strconv.uint64pow10", Rows.laid_internal_strconv_uint64pow10), ("unicode/utf8.acceptRanges", Rows.laid_unicode_utf8_acceptRanges), ("strconv.ErrRange", Rows.laid_strconv_ErrRange), ("strconv.ErrSyntax", Rows.laid_strconv_ErrSyntax), ("prelude/source.pairs", Rows.laid_prelude_source_pairs), ("unicode/utf8.first", Rows.laid_unicode_utf8_first)]
def handL : List (String × DataW Unit) := [("errors.errorType", Rows.laid_errors_errorType)]
theorem handle_of {W : World} (h : handlesMet Tryz.prog handL W) : ErrVar W := by
  obtain ⟨name, u, ty, e1, e2, e3, e4, e5⟩ := h _ (List.mem_singleton.2 rfl)
  have en : name = [101, 114, 114, 111, 114] := (Option.some.inj e1).symm
  subst en
  obtain rfl := Option.some.inj (rt.symm.trans e2)
  have hm : ty ∈ (List.range (178 + 1)).filter fun t => Tryz.prog.rowNamed t [101, 114, 114, 111, 114] := List.mem_filter.2 ⟨List.mem_range.2 (by rw [← tsize]; exact e3), e4⟩
  rw [oneRow] at hm
  obtain rfl := List.mem_singleton.1 hm
  have hh : typeHandle Tryz.prog 28 = .pointer (some ⟨10, 28, none⟩) := by kernel_rfl
  rw [hh] at e5
  unfold ErrVar
  simpa using World.var?_cell et e5 0
theorem vars_of {W : World} (h : laidMet Tryz.prog plainL W) : NumVars W ∧ PairVar W ∧ TabsOK W := by
  have h2 := laidMet.tail (laidMet.tail h)
  have h3 := laidMet.tail (laidMet.tail h2)
  have h4 := laidMet.tail h3
  have h5 := laidMet.tail h4
  obtain ⟨a1, _, hv1, _⟩ := laid_sentinel h3 gRange typeErr1 Tryz.underlying28 rowE Tryz.underlying140 Tryz.underlying142 rfl rfl Tryz.underlying9 cellsE cellsStr
  obtain ⟨a2, _, hv2, _⟩ := laid_sentinel h4 gBad typeErr2 Tryz.underlying28 rowE Tryz.underlying140 Tryz.underlying142 rfl rfl Tryz.underlying9 cellsE cellsStr
  have hp := Lib.tabIs_of_head gPow typePow Tryz.underlying144 Tryz.underlying61 cells64 cellsPow (powEq ▸ h2)
  have hf : Lib.VarReads Tryz.prog W "unicode/utf8.first" Lib.firstData := by
    have h9 := Lib.laidMet.reads h (n := "unicode/utf8.first") (d := Rows.laid_unicode_utf8_first) (by simp [plainL])
    rw [firstEq] at h9
    exact h9
  have ha : Lib.VarReads Tryz.prog W "unicode/utf8.acceptRanges" Lib.acceptData := by
    have h9 := Lib.laidMet.reads h (n := "unicode/utf8.acceptRanges") (d := Rows.laid_unicode_utf8_acceptRanges) (by simp [plainL])
    rw [acceptEq] at h9
    exact h9
  refine ⟨⟨hp, ⟨_, _, hv2⟩, _, _, hv1⟩, ?_, utf8Tabs_of_readsT u8t u8x hf ha⟩
  obtain ⟨ps, ⟨g', t', cs, fuel, p, q, hg', ht', hvar, hd, _, _⟩, _⟩ := h5
  obtain rfl := Option.some.inj (gPairs.symm.trans hg')
  obtain rfl := Option.some.inj (gPairsType.symm.trans ht')
  have e := cells_of_strs (zs := pairL) Tryz.underlying93 Tryz.underlying9 cellsStr cellsPairs hd
  intro i hi
  have h1 := World.var?_cell gPairs hvar i
  have h3 : (pairL.map fun z => Value.string ⟨z.toArray⟩) = pairC := rfl
  rw [h3] at e
  rw [h1, ← Array.getElem?_toList, e]
theorem ml_of {W : World} (h : W.ShapedOpen Tryz.prog) : MLen W := cell_of_shapedOpen_int (zero := #[.int .i64 0]) (t := 3) (k := .i64) h (of_decide_eq_true (by kernel_rfl)) (by kernel_rfl) rfl (by kernel_rfl) (by kernel_rfl) Tryz.underlying3
theorem ng_of {W : World} (h : W.ShapedOpen Tryz.prog) : 10 ≤ W.heap.size := by
  obtain ⟨_, h2⟩ := h
  obtain ⟨o, o0, h3, _⟩ := h2 10 (Nat.le_of_eq (by kernel_rfl)) (of_decide_eq_true (by kernel_rfl))
  exact Nat.le_of_lt (Array.getElem?_eq_some_iff.1 h3).1
/-- the numbers of a datum, as cells -/
def vals (d : DataW Unit) : Array Value := match d with
  | .agg ps => (ps.map fun x => match x with
    | .lit (.int k n) => Value.int k n
    | _ => .nilIface).toArray
  | _ => #[]
end Go.Proofs.YtlabofafmcbfmaaGreatDoor
