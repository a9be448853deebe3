import Derived.Test.YtlfooogmoigpfaaGreatDoorRows
import Derived.OpenShut
import Derived.LaidLaws
import Derived.LaidHandle
import Derived.Lib.LaidTab
import Derived.Stop.LaidErr
import Derived.Stop.Joined
import Derived.Lib.LaidU8T
import Derived.Shelf.Vars
import Derived.Test.YtlfooogmoigpfaaGreatDoorQba
import Derived.Test.YtlfooogmoigpfaaGreatDoorQaa
set_option maxRecDepth 100000
set_option maxHeartbeats 8000000
namespace Go.Proofs.YtlfooogmoigpfaaGreatDoor
open Go.ChangeShapes Go.WideShapes Go.ChangeAt Go.RowKit
theorem own:ownKnob Tryz.prog.godebug=none:=by kernel_rfl
theorem typePow:(Tryz.prog.globals[8]?).map (·.type)=some 220:=by kernel_rfl
theorem cellsPow:Tryz.prog.cellsOf 220=20:=by kernel_rfl
theorem cells64:Tryz.prog.cellsOf 119=1:=by kernel_rfl
theorem powEq:(Rows.laid_internal_strconv_uint64pow10:DataW Unit)=Lib.tabData .u64 Lib.pow10Tab:=by kernel_rfl
theorem gPairs : Tryz.prog.globalNamed "prelude/source.pairs" = some 1 := by kernel_rfl
theorem gPairsType:(Tryz.prog.globals[1]?).map (·.type)=some 161:=by kernel_rfl
theorem cellsPairs:Tryz.prog.cellsOf 161=8:=by kernel_rfl
theorem firstEq:(Rows.laid_unicode_utf8_first:DataW Unit)=Lib.firstData:=by kernel_rfl
theorem acceptEq:(Rows.laid_unicode_utf8_acceptRanges:DataW Unit)=Lib.acceptData:=by kernel_rfl
theorem u8x:U8Extra Tryz.prog lays197_ren:={ n3:=by kernel_rfl,n4:=by kernel_rfl,y3:=by kernel_rfl,y4:=by kernel_rfl,c5:=by kernel_rfl,c119:=by kernel_rfl,c138:=by kernel_rfl }
theorem u8t:U8Types Tryz.prog lays197_ren:=U8Types.of260 { lays197 with }
theorem cellsStr:Tryz.prog.cellsOf 9=1:=by kernel_rfl
theorem typeErr1:(Tryz.prog.globals[7]?).map (·.type)=some 31:=by kernel_rfl
theorem typeErr2:(Tryz.prog.globals[6]?).map (·.type)=some 31:=by kernel_rfl
theorem cellsE:Tryz.prog.cellsOf 218=1:=by kernel_rfl
theorem star : "*" ++ "errors.errorString" = "*errors.errorString" := by decide
theorem rowE (u : TypeId) (h : Tryz.prog.typeName? 3 u = some "*errors.errorString") : u = 216 :=
 typeName_ptr_named (nm := "errors.errorString") (by rw [star]; kernel_rfl) (by kernel_rfl) (by decide) u (by rw [star]; exact h)
theorem et : Tryz.prog.globalNamed "errors.errorType" = some 0 := by kernel_rfl
theorem rt : (Tryz.prog.cutTypes.find? (·.1 == "internal/reflectlite.rtype")).map (·.2) = some 139 := by kernel_rfl
theorem oneRow:((List.range (253+1)).filter fun t=>Tryz.prog.rowNamed t [101,114,114,111,114])=[31]:=by kernel_rfl
theorem tsize:Tryz.prog.types.size=253+1:=by kernel_rfl
theorem cells_of_strs {H:Type} {enc:TypeId × Value→H} {P:Program} {w:World} {base:Nat} {sp:Nat→Bool} {held:Bool} {fuel:Nat} {t e:TypeId} {n:Nat} {cs:List Value} {zs:List (List UInt8)} {p:List MemPlace}
  (ht:P.underlying t=some (.array n e)) (he:P.underlying e=some .string) (hce:P.cellsOf e=1) (hct:P.cellsOf t=n)
  (h:DataW.trod enc P w base sp held fuel t cs=some (.agg (zs.map fun z=>.lit (.string z)),p)):cs=zs.map fun z=>Value.string ⟨z.toArray⟩:=by
 cases fuel with
 | zero=>simp[DataW.trod] at h
 | succ fuel=>
  simp only[DataW.trod,ht,hce,hct,Nat.mul_one] at h
  split at h
  ·rename_i hl
   obtain⟨xs,hm,hx⟩:=Option.map_eq_some_iff.1 h
   have hxs:xs.map (·.1)=zs.map fun z=>(DataW.lit (.string z):DataW H):=by
    have:=congrArg Prod.fst hx
    simpa using this
   have hxl:xs.length=n:=by simpa using Lib.mapM_length hm
   have hzl:zs.length=n:=by
    have:=congrArg List.length hxs
    simp at this
    omega
   apply List.ext_getElem?
   intro i
   by_cases hi:i < n
   ·obtain⟨b,hb,hf⟩:=Lib.mapM_at hm i i (by simp[hi])
    obtain⟨z,hc,rfl,_⟩:=DataW.trod_string he hf
    have h1:cs[i]? = some (.string z):=by
     have:=congrArg (·[0]?) hc
     simpa [List.getElem?_take,List.getElem?_drop] using this
    have h2:(xs.map (·.1))[i]? = some (DataW.lit (.string z.data.toList):DataW H):=by simp[hb]
    rw[hxs] at h2
    simp only[List.getElem?_map,Option.map_eq_some_iff,DataW.lit.injEq,Lit.string.injEq] at h2
    obtain⟨z',hz',e⟩:=h2
    simp[h1,hz',e]
   ·rw[List.getElem?_eq_none (by omega),List.getElem?_eq_none (by simp;omega)]
  ·cases h
def plainL : List (String × DataW Unit) := [("math/bits.deBruijn32tab", Rows.laid_math_bits_deBruijn32tab), ("math/bits.deBruijn64tab", Rows.laid_math_bits_deBruijn64tab), ("internal/strconv.uint64pow10", Rows.laid_internal_strconv_uint64pow10), ("unicode/utf8.acceptRanges", Rows.laid_unicode_utf8_acceptRanges), ("strconv.ErrRange", Rows.laid_strconv_ErrRange), ("strconv.ErrSyntax", Rows.laid_strconv_ErrSyntax), ("prelude/source.joints", Rows.laid_prelude_source_joints), ("prelude/source.pairs", Rows.laid_prelude_source_pairs), ("unicode/utf8.first", Rows.laid_unicode_utf8_first)]
def handL : List (String × DataW Unit) := [("errors.errorType", Rows.laid_errors_errorType)]
theorem handle_of {W:World} (h:handlesMet Tryz.prog handL W):ErrVar W:=by
 obtain⟨name,u,ty,e1,e2,e3,e4,e5⟩:=h _ (List.mem_singleton.2 rfl)
 have en:name=[101,114,114,111,114]:=(Option.some.inj e1).symm
 subst en
 obtain rfl:=Option.some.inj (rt.symm.trans e2)
 have hm:ty∈(List.range (253+1)).filter fun t=>Tryz.prog.rowNamed t [101,114,114,111,114]:=List.mem_filter.2 ⟨List.mem_range.2 (by rw[← tsize];exact e3),e4⟩
 rw[oneRow] at hm
 obtain rfl:=List.mem_singleton.1 hm
 have hh:typeHandle Tryz.prog 31=.pointer (some ⟨11,31,none⟩):=by kernel_rfl
 rw[hh] at e5
 unfold ErrVar
 simpa using World.var?_cell et e5 0
theorem gJo : Tryz.prog.globalNamed "prelude/source.joints" = some 5 := by kernel_rfl
theorem gJoType:(Tryz.prog.globals[5]?).map (·.type)=some 192:=by kernel_rfl
theorem cellsJ1:Tryz.prog.cellsOf 182=4:=by kernel_rfl
theorem cellsI:Tryz.prog.cellsOf 3=1:=by kernel_rfl
def jtD {H:Type} (z:List UInt8 × Nat × Nat × Nat):DataW H:=.agg [.lit (.string z.1),.lit (.int .i64 z.2.1),.lit (.int .i64 z.2.2.1),.lit (.int .i64 z.2.2.2)]
def jtV (z:List UInt8 × Nat × Nat × Nat):List Value:=[.string ⟨z.1.toArray⟩,Zi z.2.1,Zi z.2.2.1,Zi z.2.2.2]
theorem laidJo {H:Type} : (Rows.laid_prelude_source_joints:DataW H)=.agg (jointL.map jtD):=rfl
theorem jo_one {H:Type} {enc:TypeId × Value→H} {w:World} {base:Nat} {sp:Nat→Bool} {held:Bool} {fuel:Nat} {cs:List Value} {z:List UInt8 × Nat × Nat × Nat} {y:DataW H × List MemPlace} (h:DataW.trod enc Tryz.prog w base sp held fuel 182 cs=some y) (hy:y.1=jtD z):cs=jtV z:=by
 obtain⟨xs,n,_,rfl,hl,hlen,hf⟩:=DataW.trod_struct Tryz.underlying182 h
 rw[cellsJ1] at hl
 match cs,hl,xs,hlen with
 | [c0,c1,c2,c3],_,[x0,x1,x2,x3],_=>
  simp only[jtD,List.map_cons,List.map_nil,DataW.agg.injEq,List.cons.injEq,and_true] at hy
  obtain⟨y0,y1,y2,y3⟩:=hy
  have g0:DataW.trod enc Tryz.prog w base sp held n 9 (([c0,c1,c2,c3].drop 0).take (Tryz.prog.cellsOf 9))=some x0:=hf 0 _ rfl
  rw[cellsStr] at g0
  have h0:DataW.trod enc Tryz.prog w base sp held n 9 [c0]=some x0:=g0
  have g1:DataW.trod enc Tryz.prog w base sp held n 3 (([c0,c1,c2,c3].drop 1).take (Tryz.prog.cellsOf 3))=some x1:=hf 1 _ rfl
  rw[cellsI] at g1
  have h1:DataW.trod enc Tryz.prog w base sp held n 3 [c1]=some x1:=g1
  have g2:DataW.trod enc Tryz.prog w base sp held n 3 (([c0,c1,c2,c3].drop 2).take (Tryz.prog.cellsOf 3))=some x2:=hf 2 _ rfl
  rw[cellsI] at g2
  have h2:DataW.trod enc Tryz.prog w base sp held n 3 [c2]=some x2:=g2
  have g3:DataW.trod enc Tryz.prog w base sp held n 3 (([c0,c1,c2,c3].drop 3).take (Tryz.prog.cellsOf 3))=some x3:=hf 3 _ rfl
  rw[cellsI] at g3
  have h3:DataW.trod enc Tryz.prog w base sp held n 3 [c3]=some x3:=g3
  obtain⟨s,e0,f0,_⟩:=DataW.trod_string Tryz.underlying9 h0
  obtain⟨n1,e1,f1,_⟩:=DataW.trod_int Tryz.underlying3 h1
  obtain⟨n2,e2,f2,_⟩:=DataW.trod_int Tryz.underlying3 h2
  obtain⟨n3,e3,f3,_⟩:=DataW.trod_int Tryz.underlying3 h3
  rw[f0] at y0
  rw[f1] at y1
  rw[f2] at y2
  rw[f3] at y3
  simp only[DataW.lit.injEq,Lit.string.injEq,Lit.int.injEq,true_and] at y0 y1 y2 y3
  simp only[List.cons.injEq,and_true] at e0 e1 e2 e3
  subst e0 e1 e2 e3 y1 y2 y3
  have e:s=⟨z.1.toArray⟩:=by rw[← y0]
  rw[e]
  rfl
theorem jo_of {W : World} {l : List (String × DataW Unit)} (h : laidMet Tryz.prog (("prelude/source.joints", Rows.laid_prelude_source_joints) :: l) W) : JoVar W := by
 obtain⟨ps,⟨g',t',cs,fuel,p,q,hg',ht',hvar,hd,_,_⟩,_⟩:=h
 obtain rfl:=Option.some.inj (gJo.symm.trans hg')
 obtain rfl:=Option.some.inj (gJoType.symm.trans ht')
 rw[laidJo] at hd
 obtain⟨xs,m,_,hx,hl,hxl,hf⟩:=DataW.trod_array Tryz.underlying192 hd
 rw[cellsJ1] at hf
 have hx1:xs.map (·.1)=jointL.map jtD:=by simpa using (congrArg Prod.fst hx).symm
 have key:∀a,a < 18→(cs.toList.drop (a * 4)).take 4=(joC.drop (a * 4)).take 4:=fun a ha=>by
  have h1:=hf a ha
  obtain⟨y,hy⟩:∃y,xs[a]? = some y:=⟨_,List.getElem?_eq_getElem (by omega)⟩
  rw[hy] at h1
  have h2:y.1=jtD (jointL[a]'(by show a < 18;exact ha)):=by
   have h3:=congrArg (·[a]?) hx1
   simp only[List.getElem?_map,hy,Option.map_some,List.getElem?_eq_getElem (show a < jointL.length from ha),Option.some.injEq] at h3
   exact h3
  rw[jo_one h1 h2]
  obtain rfl | rfl | rfl | rfl | rfl | rfl | rfl | rfl | rfl | rfl | rfl | rfl | rfl | rfl | rfl | rfl | rfl | rfl:a=0∨a=1∨a=2∨a=3∨a=4∨a=5∨a=6∨a=7∨a=8∨a=9∨a=10∨a=11∨a=12∨a=13∨a=14∨a=15∨a=16∨a=17:=by omega
  all_goals rfl
 intro i hi
 have h1:=World.var?_cell gJo hvar i
 have h2:=congrArg (·[i % 4]?) (key (i / 4) (by omega))
 simp only[List.getElem?_take,if_pos (Nat.mod_lt i (show 0 < 4 by omega)),List.getElem?_drop,show i / 4 * 4+i % 4=i by omega] at h2
 rw[h1,← Array.getElem?_toList,← h2]
theorem vars_of {W:World} (h:laidMet Tryz.prog plainL W):NumVars W∧PairVar W∧TabsOK W∧JoVar W:=by
 have h2:=laidMet.tail (laidMet.tail h)
 have h3:=laidMet.tail (laidMet.tail h2)
 have h4:=laidMet.tail h3
 have h6:=laidMet.tail h4
 have h5:=laidMet.tail h6
 obtain⟨a1,_,hv1,_⟩:=laid_sentinel h3 gRange typeErr1 Tryz.underlying31 rowE Tryz.underlying216 Tryz.underlying218 rfl rfl Tryz.underlying9 cellsE cellsStr
 obtain⟨a2,_,hv2,_⟩:=laid_sentinel h4 gBad typeErr2 Tryz.underlying31 rowE Tryz.underlying216 Tryz.underlying218 rfl rfl Tryz.underlying9 cellsE cellsStr
 have hp:=Lib.tabIs_of_head gPow typePow Tryz.underlying220 Tryz.underlying119 cells64 cellsPow (powEq▸h2)
 have hf : Lib.VarReads Tryz.prog W "unicode/utf8.first" Lib.firstData := by
  have h9 := Lib.laidMet.reads h (n := "unicode/utf8.first") (d := Rows.laid_unicode_utf8_first) (by simp [plainL])
  rw[firstEq] at h9
  exact h9
 have ha : Lib.VarReads Tryz.prog W "unicode/utf8.acceptRanges" Lib.acceptData := by
  have h9 := Lib.laidMet.reads h (n := "unicode/utf8.acceptRanges") (d := Rows.laid_unicode_utf8_acceptRanges) (by simp [plainL])
  rw[acceptEq] at h9
  exact h9
 refine⟨⟨hp,⟨_,_,hv2⟩,_,_,hv1⟩,?_,utf8Tabs_of_readsT u8t u8x hf ha,jo_of h6⟩
 obtain⟨ps,⟨g',t',cs,fuel,p,q,hg',ht',hvar,hd,_,_⟩,_⟩:=h5
 obtain rfl:=Option.some.inj (gPairs.symm.trans hg')
 obtain rfl:=Option.some.inj (gPairsType.symm.trans ht')
 have e:=cells_of_strs (zs:=pairL) Tryz.underlying161 Tryz.underlying9 cellsStr cellsPairs hd
 intro i hi
 have h1:=World.var?_cell gPairs hvar i
 have h3:(pairL.map fun z=>Value.string ⟨z.toArray⟩)=pairC:=rfl
 rw[h3] at e
 rw[h1,← Array.getElem?_toList,e]
theorem ml_of {W:World} (h:W.ShapedOpen Tryz.prog):MLen W:=cell_of_shapedOpen_int (zero:=#[Zi 0]) (t:=3) (k:=.i64) h (of_decide_eq_true (by kernel_rfl)) (by kernel_rfl) rfl (by kernel_rfl) (by kernel_rfl) Tryz.underlying3
theorem ng_of {W:World} (h:W.ShapedOpen Tryz.prog):11≤W.heap.size:=by
 obtain⟨_,h2⟩:=h
 obtain⟨o,o0,h3,_⟩:=h2 11 (Nat.le_of_eq (by kernel_rfl)) (of_decide_eq_true (by kernel_rfl))
 exact Nat.le_of_lt (Array.getElem?_eq_some_iff.1 h3).1
def vals (d:DataW Unit):Array Value:=match d with
 | .agg ps=>(ps.map fun x=>match x with
  | .lit (.int k n)=>Value.int k n
  | _=>.nilIface).toArray
 | _=>#[]
end Go.Proofs.YtlfooogmoigpfaaGreatDoor
