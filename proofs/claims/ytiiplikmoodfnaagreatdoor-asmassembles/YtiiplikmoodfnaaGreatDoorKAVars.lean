import Derived.Test.YtiiplikmoodfnaaGreatDoorRows
import Derived.Test.YtiiplikmoodfnaaGreatDoorKLDMath
import Derived.LaidLaws
import Derived.LaidHandle
import Derived.Lib.LaidTab
import Derived.Stop.LaidErr
import Derived.Stop.Joined
/-
  WHAT THE LAID VARIABLES OF A LAW OVER TEXTS GIVE.
-/
namespace Go.Proofs.YtiiplikmoodfnaaGreatDoor
open Go.ChangeShapes Go.WideShapes Go.ChangeAt Go.RowKit

theorem own : ownKnob Tryz.prog.godebug = none := by kernel_rfl
theorem laidOut : laidOutB Tryz.prog = true := by kernel_rfl
theorem typePow : (Tryz.prog.globals[5]?).map (·.type) = some 208 := by kernel_rfl
theorem cellsPow : Tryz.prog.cellsOf 208 = 20 := by kernel_rfl
theorem cells64 : Tryz.prog.cellsOf 153 = 1 := by kernel_rfl
theorem powEq : (Rows.laid_internal_strconv_uint64pow10 : DataW Unit) = Lib.tabData .u64 Lib.pow10Tab := by kernel_rfl
theorem gTab : Tryz.prog.globalNamed "prelude/lang.names" = some 2 := by kernel_rfl
theorem gTabType : (Tryz.prog.globals[2]?).map (·.type) = some 155 := by kernel_rfl
theorem cellsTab : Tryz.prog.cellsOf 155 = 37 := by kernel_rfl
theorem gNw : Tryz.prog.globalNamed "prelude/asm.numberWords" = some 1 := by kernel_rfl
theorem gNwType : (Tryz.prog.globals[1]?).map (·.type) = some 134 := by kernel_rfl
theorem cellsNw : Tryz.prog.cellsOf 134 = 4 := by kernel_rfl
theorem cellsStr : Tryz.prog.cellsOf 9 = 1 := by kernel_rfl
theorem typeErr1 : (Tryz.prog.globals[4]?).map (·.type) = some 28 := by kernel_rfl
theorem typeErr2 : (Tryz.prog.globals[3]?).map (·.type) = some 28 := by kernel_rfl
theorem cellsE : Tryz.prog.cellsOf 206 = 1 := by kernel_rfl
theorem star : "*" ++ "errors.errorString" = "*errors.errorString" := by decide
theorem rowE (u : TypeId) (h : Tryz.prog.typeName? 3 u = some "*errors.errorString") : u = 204 :=
  typeName_ptr_named (nm := "errors.errorString") (by rw [star]; kernel_rfl) (by kernel_rfl) (by decide) u (by rw [star]; exact h)
theorem et : Tryz.prog.globalNamed "errors.errorType" = some 0 := by kernel_rfl
theorem rt : (Tryz.prog.cutTypes.find? (·.1 == "internal/reflectlite.rtype")).map (·.2) = some 139 := by kernel_rfl
theorem oneRow : ((List.range (240 + 1)).filter fun t => Tryz.prog.rowNamed t [101, 114, 114, 111, 114]) = [28] := by kernel_rfl
theorem tsize : Tryz.prog.types.size = 240 + 1 := by kernel_rfl
/-- AN ARRAY OF TEXTS THAT READS AS THE TABLE HOLDS THE TABLE's TEXTS, CELL FOR CELL. -/
theorem cells_of_strs {H : Type} {enc : TypeId × Value → H} {P : Program} {w : World} {base : Nat} {sp : Nat → Bool} {held : Bool} {fuel : Nat} {t e : TypeId} {n : Nat} {cs : List Value} {zs : List (List UInt8)} {p : List MemPlace}
    (ht : P.underlying t = some (.array n e)) (he : P.underlying e = some .string) (hce : P.cellsOf e = 1) (hct : P.cellsOf t = n)
    (h : DataW.trod enc P w base sp held fuel t cs = some (.agg (zs.map fun z => .lit (.string z)), p)) : cs = zs.map fun z => Value.string ⟨z.toArray⟩ := by
  cases fuel with
  | zero => simp [DataW.trod] at h
  | succ fuel =>
    simp only [DataW.trod, ht, hce, hct, Nat.mul_one] at h
    split at h
    · rename_i hl
      obtain ⟨xs, hm, hx⟩ := Option.map_eq_some_iff.1 h
      have hxs : xs.map (·.1) = zs.map fun z => (DataW.lit (.string z) : DataW H) := by
        have := congrArg Prod.fst hx
        simpa using this
      have hxl : xs.length = n := by simpa using Lib.mapM_length hm
      have hzl : zs.length = n := by
        have := congrArg List.length hxs
        simp at this
        omega
      apply List.ext_getElem?
      intro i
      by_cases hi : i < n
      · obtain ⟨b, hb, hf⟩ := Lib.mapM_at hm i i (by simp [hi])
        obtain ⟨z, hc, rfl, _⟩ := DataW.trod_string he hf
        have h1 : cs[i]? = some (.string z) := by
          have := congrArg (·[0]?) hc
          simpa [List.getElem?_take, List.getElem?_drop] using this
        have h2 : (xs.map (·.1))[i]? = some (DataW.lit (.string z.data.toList) : DataW H) := by simp [hb]
        rw [hxs] at h2
        simp only [List.getElem?_map, Option.map_eq_some_iff, DataW.lit.injEq, Lit.string.injEq] at h2
        obtain ⟨z', hz', e⟩ := h2
        simp [h1, hz', e]
      · rw [List.getElem?_eq_none (by omega), List.getElem?_eq_none (by simp; omega)]
    · cases h
def nmLists : List (List UInt8) := nmL.map fun s => s.data.toList
def nwLists : List (List UInt8) := [nwL 0, nwL 1, nwL 2, nwL 3]
def nwCells : Array Value := (nwLists.map fun z => Value.string ⟨z.toArray⟩).toArray
theorem laid_eq {H : Type} : (Rows.laid_prelude_lang_names : DataW H) = .agg (nmLists.map fun z => .lit (.string z)) := rfl
theorem laid_nw {H : Type} : (Rows.laid_prelude_asm_numberWords : DataW H) = .agg (nwLists.map fun z => .lit (.string z)) := rfl
/-- the plain ones -/
def plainL : List (String × DataW Unit) := [("math/bits.deBruijn32tab", Rows.laid_math_bits_deBruijn32tab), ("math/bits.deBruijn64tab", Rows.laid_math_bits_deBruijn64tab), ("internal/strconv.uint64pow10", Rows.laid_internal_strconv_uint64pow10), ("strconv.ErrRange", Rows.laid_strconv_ErrRange), ("strconv.ErrSyntax", Rows.laid_strconv_ErrSyntax), ("prelude/lang.names", Rows.laid_prelude_lang_names), ("prelude/asm.numberWords", Rows.laid_prelude_asm_numberWords)]
def handL : List (String × DataW Unit) := [("errors.errorType", Rows.laid_errors_errorType)]
theorem handle_of {W : World} (h : handlesMet Tryz.prog handL W) : ErrVar W := by
  obtain ⟨name, u, ty, e1, e2, e3, e4, e5⟩ := h _ (List.mem_singleton.2 rfl)
  have en : name = [101, 114, 114, 111, 114] := (Option.some.inj e1).symm
  subst en
  obtain rfl := Option.some.inj (rt.symm.trans e2)
  have hm : ty ∈ (List.range (240 + 1)).filter fun t => Tryz.prog.rowNamed t [101, 114, 114, 111, 114] := List.mem_filter.2 ⟨List.mem_range.2 (by rw [← tsize]; exact e3), e4⟩
  rw [oneRow] at hm
  obtain rfl := List.mem_singleton.1 hm
  have hh : typeHandle Tryz.prog 28 = .pointer (some ⟨8, 28, none⟩) := by kernel_rfl
  rw [hh] at e5
  unfold ErrVar
  simpa using World.var?_cell et e5 0
theorem vars_of {W : World} (h : laidMet Tryz.prog plainL W) : NumVars W ∧ Vs W := by
  have h2 := laidMet.tail (laidMet.tail h)
  have h3 := laidMet.tail h2
  have h4 := laidMet.tail h3
  have h5 := laidMet.tail h4
  have h6 := laidMet.tail h5
  obtain ⟨a1, _, hv1, _⟩ := laid_sentinel h3 gRange typeErr1 Tryz.underlying28 rowE Tryz.underlying204 Tryz.underlying206 rfl rfl Tryz.underlying9 cellsE cellsStr
  obtain ⟨a2, _, hv2, _⟩ := laid_sentinel h4 gBad typeErr2 Tryz.underlying28 rowE Tryz.underlying204 Tryz.underlying206 rfl rfl Tryz.underlying9 cellsE cellsStr
  have hp := Lib.tabIs_of_head gPow typePow Tryz.underlying208 Tryz.underlying153 cells64 cellsPow (powEq ▸ h2)
  refine ⟨⟨hp, ⟨_, _, hv2⟩, _, _, hv1⟩, ?_, ?_, hp⟩
  · obtain ⟨ps, ⟨g', t', cs, fuel, p, q, hg', ht', hvar, hd, _, _⟩, _⟩ := h5
    obtain rfl := Option.some.inj (gTab.symm.trans hg')
    obtain rfl := Option.some.inj (gTabType.symm.trans ht')
    have e := cells_of_strs (zs := nmLists) Tryz.underlying155 Tryz.underlying9 cellsStr cellsTab hd
    intro i hi
    have h1 := World.var?_cell gTab hvar i
    have h2 := nmCells_get i hi
    have h3 : (nmLists.map fun z => Value.string ⟨z.toArray⟩) = nmCells.toList := rfl
    rw [h3] at e
    rw [h1, ← Array.getElem?_toList, e, Array.getElem?_toList]
    exact h2
  · obtain ⟨ps, ⟨g', t', cs, fuel, p, q, hg', ht', hvar, hd, _, _⟩, _⟩ := h6
    obtain rfl := Option.some.inj (gNw.symm.trans hg')
    obtain rfl := Option.some.inj (gNwType.symm.trans ht')
    have e := cells_of_strs (zs := nwLists) Tryz.underlying134 Tryz.underlying9 cellsStr cellsNw hd
    intro i hi
    have h1 := World.var?_cell gNw hvar i
    rw [h1, ← Array.getElem?_toList, e]
    obtain rfl | rfl | rfl | rfl : i = 0 ∨ i = 1 ∨ i = 2 ∨ i = 3 := by omega
    all_goals rfl
theorem ng_of {W : World} (h : W.ShapedOpen Tryz.prog) : 8 ≤ W.heap.size := by
  obtain ⟨_, h2⟩ := h
  obtain ⟨o, o0, h3, _⟩ := h2 8 (Nat.le_of_eq (by kernel_rfl)) (of_decide_eq_true (by kernel_rfl))
  exact Nat.le_of_lt (Array.getElem?_eq_some_iff.1 h3).1
/-- the numbers of a datum, as cells -/
def vals (d : DataW Unit) : Array Value := match d with
  | .agg ps => (ps.map fun x => match x with
    | .lit (.int k n) => Value.int k n
    | _ => .nilIface).toArray
  | _ => #[]
end Go.Proofs.YtiiplikmoodfnaaGreatDoor
