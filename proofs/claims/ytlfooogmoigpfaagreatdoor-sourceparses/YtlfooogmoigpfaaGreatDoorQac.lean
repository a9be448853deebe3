import Derived.Shelf.LaysM
import Derived.Shelf.Strconv.Itoa4
import Derived.Shelf.LaysC
import Derived.Shelf.Strconv.ErrVarParseInt
import Derived.Test.YtlfooogmoigpfaaGreatDoorProg
import Derived.Lib.ItoaMem
import Derived.Test.YtlfooogmoigpfaaGreatDoorQab
import Derived.Laws.BitsAllLaws
import Derived.Laws.OwnMore
import Derived.Laws.AppendOwnNone
import Derived.Maps.AppendAt
import Derived.Deep.DeepAppendRoom
import Derived.Test.YtlfooogmoigpfaaGreatDoorQaa
set_option maxRecDepth 100000
set_option maxHeartbeats 8000000
namespace Go.Proofs.YtlfooogmoigpfaaGreatDoor
open Go.Shelf
def laysM173_ren:Go.Shelf.Ren:=⟨fun | 173=>150 | 246=>159 | 283=>166 | 284=>167 | 285=>168 | 286=>169 | 129=>176 | 317=>175 | 318=>177 | 319=>178 | 320=>179 | 337=>181 | 338=>182 | n=>n,fun | 2=>2 | 3=>3 | 9=>9 | 4=>4 | 171=>208 | 0=>0 | 53=>119 | 37=>156 | 5=>5 | 173=>211 | 212=>220 | 51=>163 | 20=>20 | 213=>221 | 46=>174 | 232=>225 | 233=>226 | n=>n,fun | 17=>8 | 18=>9 | 19=>10 | n=>n⟩
theorem laysM173:Go.Proofs.LaysM.n173 Tryz.prog laysM173_ren:={
 mixed:=by kernel_rfl
 f129:=Tryz.func176.trans (congrArg some (by kernel_rfl))
 f173:=Tryz.func150.trans (congrArg some (by kernel_rfl))
 f246:=Tryz.func159.trans (congrArg some (by kernel_rfl))
 f283:=Tryz.func166.trans (congrArg some (by kernel_rfl))
 f284:=Tryz.func167.trans (congrArg some (by kernel_rfl))
 f285:=Tryz.func168.trans (congrArg some (by kernel_rfl))
 f286:=Tryz.func169.trans (congrArg some (by kernel_rfl))
 f317:=Tryz.func175.trans (congrArg some (by kernel_rfl))
 f318:=Tryz.func177.trans (congrArg some (by kernel_rfl))
 f319:=Tryz.func178.trans (congrArg some (by kernel_rfl))
 f320:=Tryz.func179.trans (congrArg some (by kernel_rfl))
 f337:=Tryz.func181.trans (congrArg some (by kernel_rfl))
 f338:=Tryz.func182.trans (congrArg some (by kernel_rfl))
 t0:=Tryz.underlying0
 a0:=Tryz.isAgg0
 z0:=Tryz.sizeOf0
 v0:=Tryz.zeroValue0
 t2:=Tryz.underlying2
 a2:=Tryz.isAgg2
 z2:=Tryz.sizeOf2
 v2:=Tryz.zeroValue2
 t3:=Tryz.underlying3
 a3:=Tryz.isAgg3
 z3:=Tryz.sizeOf3
 v3:=Tryz.zeroValue3
 t4:=Tryz.underlying4
 a4:=Tryz.isAgg4
 z4:=Tryz.sizeOf4
 v4:=Tryz.zeroValue4
 t5:=Tryz.underlying5
 a5:=Tryz.isAgg5
 z5:=Tryz.sizeOf5
 v5:=Tryz.zeroValue5
 t9:=Tryz.underlying9
 a9:=Tryz.isAgg9
 z9:=Tryz.sizeOf9
 v9:=Tryz.zeroValue9
 t20:=Tryz.underlying20
 a20:=Tryz.isAgg20
 z20:=Tryz.sizeOf20
 v20:=Tryz.zeroValue20
 t37:=Tryz.underlying156
 a37:=Tryz.isAgg156
 z37:=Tryz.sizeOf156
 v37:=Tryz.zeroValue156
 t46:=Tryz.underlying174
 a46:=Tryz.isAgg174
 z46:=Tryz.sizeOf174
 v46:=Tryz.zeroValue174
 t51:=Tryz.underlying163
 a51:=Tryz.isAgg163
 z51:=Tryz.sizeOf163
 v51:=Tryz.zeroValue163
 t53:=Tryz.underlying119
 a53:=Tryz.isAgg119
 z53:=Tryz.sizeOf119
 v53:=Tryz.zeroValue119
 t171:=Tryz.underlying208
 a171:=Tryz.isAgg208
 z171:=Tryz.sizeOf208
 v171:=Tryz.zeroValue208
 t173:=Tryz.underlying211
 a173:=Tryz.isAgg211
 z173:=Tryz.sizeOf211
 v173:=Tryz.zeroValue211
 t212:=Tryz.underlying220
 a212:=Tryz.isAgg220
 z212:=Tryz.sizeOf220
 v212:=Tryz.zeroValue220
 t213:=Tryz.underlying221
 a213:=Tryz.isAgg221
 z213:=Tryz.sizeOf221
 t232:=Tryz.underlying225
 a232:=Tryz.isAgg225
 z232:=Tryz.sizeOf225
 v232:=Tryz.zeroValue225
 t233:=Tryz.underlying226
 a233:=Tryz.isAgg226
 z233:=Tryz.sizeOf226
 v233:=Tryz.zeroValue226
 g17:=by kernel_rfl
 g18:=by kernel_rfl
 g19:=by kernel_rfl
 i0:=by kernel_rfl
 i2:=by kernel_rfl
 i3:=by kernel_rfl
 i4:=by kernel_rfl
 i5:=by kernel_rfl
 i9:=by kernel_rfl
 i20:=by kernel_rfl
 i37:=by kernel_rfl
 i46:=by kernel_rfl
 i51:=by kernel_rfl
 i53:=by kernel_rfl
 i171:=by kernel_rfl
 i173:=by kernel_rfl
 i212:=by kernel_rfl
 i232:=by kernel_rfl
 i233:=by kernel_rfl
 m17:=by kernel_rfl
 m18:=by kernel_rfl
 m19:=by kernel_rfl }
def laysC174_ren:Go.Shelf.Ren:=⟨fun | 174=>136 | 247=>148 | 245=>149 | 287=>154 | 279=>155 | 280=>156 | 281=>157 | 282=>158 | 321=>162 | 322=>163 | 316=>63 | 171=>165 | 205=>164 | 243=>174 | 246=>159 | 283=>166 | 284=>167 | 285=>168 | 286=>169 | 129=>176 | 317=>175 | 318=>177 | 319=>178 | 320=>179 | 337=>181 | 338=>182 | n=>n,fun | 9=>9 | 3=>3 | 2=>2 | 75=>31 | 85=>188 | 4=>4 | 167=>197 | 5=>5 | 53=>119 | 175=>198 | 46=>174 | 168=>200 | 37=>156 | 0=>0 | 210=>206 | 21=>21 | 127=>157 | 145=>218 | 143=>216 | 171=>208 | 173=>211 | 212=>220 | 51=>163 | 20=>20 | 213=>221 | 232=>225 | 233=>226 | 80=>122 | n=>n,fun | 15=>6 | 16=>7 | 17=>8 | 18=>9 | 19=>10 | n=>n⟩
theorem laysC174:Go.Proofs.LaysC.n174 Tryz.prog laysC174_ren:={
 mixed:=by kernel_rfl
 f129:=Tryz.func176.trans (congrArg some (by kernel_rfl))
 f171:=Tryz.func165.trans (congrArg some (by kernel_rfl))
 f174:=Tryz.func136.trans (congrArg some (by kernel_rfl))
 f205:=Tryz.func164.trans (congrArg some (by kernel_rfl))
 f243:=Tryz.func174.trans (congrArg some (by kernel_rfl))
 f245:=Tryz.func149.trans (congrArg some (by kernel_rfl))
 f246:=Tryz.func159.trans (congrArg some (by kernel_rfl))
 f247:=Tryz.func148.trans (congrArg some (by kernel_rfl))
 f279:=Tryz.func155.trans (congrArg some (by kernel_rfl))
 f280:=Tryz.func156.trans (congrArg some (by kernel_rfl))
 f281:=Tryz.func157.trans (congrArg some (by kernel_rfl))
 f282:=Tryz.func158.trans (congrArg some (by kernel_rfl))
 f283:=Tryz.func166.trans (congrArg some (by kernel_rfl))
 f284:=Tryz.func167.trans (congrArg some (by kernel_rfl))
 f285:=Tryz.func168.trans (congrArg some (by kernel_rfl))
 f286:=Tryz.func169.trans (congrArg some (by kernel_rfl))
 f287:=Tryz.func154.trans (congrArg some (by kernel_rfl))
 f316:=Tryz.func63.trans (congrArg some (by kernel_rfl))
 f317:=Tryz.func175.trans (congrArg some (by kernel_rfl))
 f318:=Tryz.func177.trans (congrArg some (by kernel_rfl))
 f319:=Tryz.func178.trans (congrArg some (by kernel_rfl))
 f320:=Tryz.func179.trans (congrArg some (by kernel_rfl))
 f321:=Tryz.func162.trans (congrArg some (by kernel_rfl))
 f322:=Tryz.func163.trans (congrArg some (by kernel_rfl))
 f337:=Tryz.func181.trans (congrArg some (by kernel_rfl))
 f338:=Tryz.func182.trans (congrArg some (by kernel_rfl))
 t0:=Tryz.underlying0
 a0:=Tryz.isAgg0
 z0:=Tryz.sizeOf0
 v0:=Tryz.zeroValue0
 t2:=Tryz.underlying2
 a2:=Tryz.isAgg2
 z2:=Tryz.sizeOf2
 v2:=Tryz.zeroValue2
 t3:=Tryz.underlying3
 a3:=Tryz.isAgg3
 z3:=Tryz.sizeOf3
 v3:=Tryz.zeroValue3
 t4:=Tryz.underlying4
 a4:=Tryz.isAgg4
 z4:=Tryz.sizeOf4
 v4:=Tryz.zeroValue4
 t5:=Tryz.underlying5
 a5:=Tryz.isAgg5
 z5:=Tryz.sizeOf5
 v5:=Tryz.zeroValue5
 t9:=Tryz.underlying9
 a9:=Tryz.isAgg9
 z9:=Tryz.sizeOf9
 v9:=Tryz.zeroValue9
 t20:=Tryz.underlying20
 a20:=Tryz.isAgg20
 z20:=Tryz.sizeOf20
 v20:=Tryz.zeroValue20
 t21:=Tryz.underlying21
 a21:=Tryz.isAgg21
 z21:=Tryz.sizeOf21
 v21:=Tryz.zeroValue21
 t37:=Tryz.underlying156
 a37:=Tryz.isAgg156
 z37:=Tryz.sizeOf156
 v37:=Tryz.zeroValue156
 t46:=Tryz.underlying174
 a46:=Tryz.isAgg174
 z46:=Tryz.sizeOf174
 v46:=Tryz.zeroValue174
 t51:=Tryz.underlying163
 a51:=Tryz.isAgg163
 z51:=Tryz.sizeOf163
 v51:=Tryz.zeroValue163
 t53:=Tryz.underlying119
 a53:=Tryz.isAgg119
 z53:=Tryz.sizeOf119
 v53:=Tryz.zeroValue119
 t75:=Tryz.underlying31
 a75:=Tryz.isAgg31
 z75:=Tryz.sizeOf31
 v75:=Tryz.zeroValue31
 t85:=Tryz.underlying188
 a85:=Tryz.isAgg188
 z85:=Tryz.sizeOf188
 v85:=Tryz.zeroValue188
 t127:=Tryz.underlying157
 a127:=Tryz.isAgg157
 z127:=Tryz.sizeOf157
 v127:=Tryz.zeroValue157
 t143:=Tryz.underlying216
 a143:=Tryz.isAgg216
 z143:=Tryz.sizeOf216
 v143:=Tryz.zeroValue216
 t145:=Tryz.underlying218
 a145:=Tryz.isAgg218
 z145:=Tryz.sizeOf218
 v145:=Tryz.zeroValue218
 t167:=Tryz.underlying197
 a167:=Tryz.isAgg197
 z167:=Tryz.sizeOf197
 v167:=Tryz.zeroValue197
 t168:=Tryz.underlying200
 a168:=Tryz.isAgg200
 z168:=Tryz.sizeOf200
 v168:=Tryz.zeroValue200
 t171:=Tryz.underlying208
 a171:=Tryz.isAgg208
 z171:=Tryz.sizeOf208
 v171:=Tryz.zeroValue208
 t173:=Tryz.underlying211
 a173:=Tryz.isAgg211
 z173:=Tryz.sizeOf211
 v173:=Tryz.zeroValue211
 t175:=Tryz.underlying198
 a175:=Tryz.isAgg198
 z175:=Tryz.sizeOf198
 v175:=Tryz.zeroValue198
 t210:=Tryz.underlying206
 a210:=Tryz.isAgg206
 z210:=Tryz.sizeOf206
 v210:=Tryz.zeroValue206
 t212:=Tryz.underlying220
 a212:=Tryz.isAgg220
 z212:=Tryz.sizeOf220
 v212:=Tryz.zeroValue220
 t213:=Tryz.underlying221
 a213:=Tryz.isAgg221
 z213:=Tryz.sizeOf221
 t232:=Tryz.underlying225
 a232:=Tryz.isAgg225
 z232:=Tryz.sizeOf225
 v232:=Tryz.zeroValue225
 t233:=Tryz.underlying226
 a233:=Tryz.isAgg226
 z233:=Tryz.sizeOf226
 v233:=Tryz.zeroValue226
 g15:=by kernel_rfl
 g16:=by kernel_rfl
 g17:=by kernel_rfl
 g18:=by kernel_rfl
 g19:=by kernel_rfl
 t80:=Tryz.underlying122
 a80:=Tryz.isAgg122
 z80:=Tryz.sizeOf122
 v80:=Tryz.zeroValue122
 i0:=by kernel_rfl
 i2:=by kernel_rfl
 i3:=by kernel_rfl
 i4:=by kernel_rfl
 i5:=by kernel_rfl
 i9:=by kernel_rfl
 i20:=by kernel_rfl
 i21:=by kernel_rfl
 i37:=by kernel_rfl
 i46:=by kernel_rfl
 i51:=by kernel_rfl
 i53:=by kernel_rfl
 i75:=by kernel_rfl
 i80:=by kernel_rfl
 i85:=by kernel_rfl
 i127:=by kernel_rfl
 i143:=by kernel_rfl
 i145:=by kernel_rfl
 i167:=by kernel_rfl
 i168:=by kernel_rfl
 i171:=by kernel_rfl
 i173:=by kernel_rfl
 i175:=by kernel_rfl
 i210:=by kernel_rfl
 i212:=by kernel_rfl
 i232:=by kernel_rfl
 i233:=by kernel_rfl
 m15:=by kernel_rfl
 m16:=by kernel_rfl
 m17:=by kernel_rfl
 m18:=by kernel_rfl
 m19:=by kernel_rfl
 c0:=by kernel_rfl
 c2:=by kernel_rfl
 c3:=by kernel_rfl
 c4:=by kernel_rfl
 c5:=by kernel_rfl
 c9:=by kernel_rfl
 c20:=by kernel_rfl
 c21:=by kernel_rfl
 c37:=by kernel_rfl
 c46:=by kernel_rfl
 c51:=by kernel_rfl
 c53:=by kernel_rfl
 c75:=by kernel_rfl
 c80:=by kernel_rfl
 c85:=by kernel_rfl
 c127:=by kernel_rfl
 c143:=by kernel_rfl
 c145:=by kernel_rfl
 c167:=by kernel_rfl
 c168:=by kernel_rfl
 c171:=by kernel_rfl
 c173:=by kernel_rfl
 c175:=by kernel_rfl
 c210:=by kernel_rfl
 c212:=by kernel_rfl
 c213:=by kernel_rfl
 c232:=by kernel_rfl
 c233:=by kernel_rfl }
end Go.Proofs.YtlfooogmoigpfaaGreatDoor
namespace Go.Proofs.YtlfooogmoigpfaaGreatDoor
open Go.RowKit Go.Shelf
theorem byteList (s:ByteArray):s.toList=s.data.toList:=ByteArray.toList_eq s
def DigVars (w : World) : Prop := Lib.TabIs Tryz.prog w "internal/strconv.uint64pow10" .u64 Lib.pow10Tab
theorem var_lt {P:Program} {w:World} {n:String} {cs:Array Value} {g:Nat} (hg:P.globalNamed n=some g) (h:w.var? P n=some cs):g < w.heap.size:=by
 unfold World.var? at h
 rw[hg,Option.bind_some] at h
 by_cases hlt:g < w.heap.size
 ·exact hlt
 ·have hn:w.heap[g]? = none:=Array.getElem?_eq_none_iff.2 (by omega)
  rw[hn] at h;cases h
theorem var_kept {w w1:World} {n:String} {cs:Array Value} {g:Nat} (hg:Tryz.prog.globalNamed n=some g) (h:w.var? Tryz.prog n=some cs) (hb:Below w.heap.size w w1):w1.var? Tryz.prog n=some cs:=
 var?_below hb hg (var_lt hg h) h
theorem gPow : Tryz.prog.globalNamed "internal/strconv.uint64pow10" = some 8 := by kernel_rfl
theorem grow_below (w:World) (k:Nat) (os:Array Obj):Below w.heap.size w (Sort.grow (w.drewN k) os):=
 ⟨rfl,rfl,rfl,by simp[Sort.grow],fun i hi=>by simp[Sort.grow];rw[Array.getElem?_append_left hi]⟩
theorem formatInt_any (w:World) (n:Int) (h0 : -9223372036854775808≤n) (h1:n≤9223372036854775807) (hv:DigVars w) :
  Calls Tryz.prog 150 #[Zi n,Zi 10] w fun e w'=>e=.returned (.string ⟨(Lib.itoa n).toArray⟩)∧Below w.heap.size w w':=by
 refine (show Calls Tryz.prog 150 #[Zi n,Zi 10] w _ from Any.strconv_FormatInt_10 laysM173 n h0 h1 w hv).mono ?_
 rintro e w' ⟨rfl,k,os,rfl⟩
 exact⟨rfl,grow_below w k os⟩
def NumVars (w:World):Prop:=
 Lib.TabIs Tryz.prog w "internal/strconv.uint64pow10" .u64 Lib.pow10Tab ∧ (∃ tp p, w.var? Tryz.prog "strconv.ErrSyntax" = some #[.iface tp p]) ∧ (∃ tp p, w.var? Tryz.prog "strconv.ErrRange" = some #[.iface tp p])
theorem gBad : Tryz.prog.globalNamed "strconv.ErrSyntax" = some 6 := by kernel_rfl
theorem gRange : Tryz.prog.globalNamed "strconv.ErrRange" = some 7 := by kernel_rfl
theorem NumVars.kept {w w1:World} (h:NumVars w) (hb:Below w.heap.size w w1):NumVars w1:=by
 obtain⟨h1,⟨tp,p,h2⟩,tq,q,h3⟩:=h
 exact⟨var_kept gPow h1 hb,⟨tp,p,var_kept gBad h2 hb⟩,tq,q,var_kept gRange h3 hb⟩
theorem digits_anyN (w:World) (n:Int) (h0 : -9223372036854775808≤n) (h1:n≤9223372036854775807) (hv:NumVars w) :
  Calls Tryz.prog 137 #[Zi n] w fun e w'=>e=.returned (.string ⟨(Lib.itoa n).toArray⟩)∧Below w.heap.size w w':=by
 have HV:Hid (NumVars w):=hv
 clear hv
 go_enter Tryz.func137,Tryz.ntmps137
 go_wp2_with fail
 refine (formatInt_any w n h0 h1 HV.out.1).mono ?_
 rintro e w1 ⟨rfl,hb⟩
 go_wp2
 go_ret
 exact⟨rfl,hb⟩
theorem parse_ok (w:World) (s:ByteArray) (hs:s.size≤9223372036854775806) (v:Int) (h:Lib.parseIntB 64 s.data.toList=.ok v) :
  Calls Tryz.prog 136 #[.string s,Zi 10,Zi 64] w fun e w'=>e=.returned (.tuple #[Zi v,.nilIface])∧Below w.heap.size w w':=by
 refine (show Calls Tryz.prog 136 #[.string s,Zi 10,Zi 64] w _ from Any.strconv_ParseInt_10_at64_ok laysC174 s hs v h w).mono ?_
 rintro e w' ⟨rfl,h1⟩
 refine⟨rfl,?_⟩
 rcases h1 with rfl | ⟨t,rfl⟩
 ·exact Below.refl _ _
 ·exact Lib.bytesWorld_below w _ t
theorem parse_bad (w:World) (s:ByteArray) (hs:s.size≤281474976710656) (h:∀v,Lib.parseIntB 64 s.data.toList≠.ok v) (hv:NumVars w) :
  Calls Tryz.prog 136 #[.string s,Zi 10,Zi 64] w fun e w'=>∃x N,e=.returned (.tuple #[Zi x,.iface 200 (Zp N)])∧Below w.heap.size w w':=by
 obtain⟨_,⟨tp,p,h2⟩,tq,q,h3⟩:=hv
 cases hh:Lib.parseIntB 64 s.data.toList with
 | ok v=>exact absurd hh (h v)
 | range=>
  refine (show Calls Tryz.prog 136 #[.string s,Zi 10,Zi 64] w _ from Any.strconv_ParseInt_10_at64_range_var laysC174 s hs hh tq q w h3).mono ?_
  rintro e w' ⟨N,rfl,_,_,hb⟩
  exact⟨_,N,rfl,hb⟩
 | _=>
  refine (show Calls Tryz.prog 136 #[.string s,Zi 10,Zi 64] w _ from Any.strconv_ParseInt_10_at64_syntax_var laysC174 s hs hh tp p w h2).mono ?_
  rintro e w' ⟨N,rfl,_,_,hb⟩
  exact⟨_,N,rfl,hb⟩
theorem number_any (w:World) (s:ByteArray) (hs:s.size≤281474976710656) (hv:NumVars w) :
  Calls Tryz.prog 122 #[.string s] w fun e w'=>e=.returned (.tuple #[Zi (Dec.num1 s.data.toList).1,.bool (Dec.num1 s.data.toList).2])∧Below w.heap.size w w':=by
 have HV:Hid (NumVars w):=hv
 clear hv
 by_cases hx:∃v,Lib.parseIntB 64 s.data.toList=.ok v
 ·obtain⟨v,hx⟩:=hx
  have HX:Hid (Lib.parseIntB 64 s.data.toList=.ok v):=hx
  have vb:=Dec.parse_bounds hx
  clear hx
  go_enter Tryz.func122,Tryz.ntmps122
  go_wp2_with fail
  refine (parse_ok w s (by omega) v HX.out).mono ?_
  rintro e w1 ⟨rfl,hb1⟩
  have HV1:Hid (NumVars w1):=HV.out.kept hb1
  have HB1:Hid (Below w.heap.size w w1):=hb1
  clear hb1
  go_wp2_with fail
  refine (digits_anyN w1 v vb.1 vb.2 HV1.out).mono ?_
  rintro e w2 ⟨rfl,hb2⟩
  have HB2:Hid (Below w.heap.size w w2):=HB1.out.trans (hb2.mono HB1.out.size)
  clear hb2
  by_cases hE:Lib.itoa v=s.data.toList
  ·have hB:(!Lib.itoa v == s.toList)=false:=by rw[byteList s];simp[hE]
   have HE:Hid (Dec.num1 s.data.toList=(v,true)):=by unfold Dec.num1;rw[Hid,HX.out];simp[hE]
   clear hE
   go_wp2
   go_ret2
   exact⟨by rw[HE.out];rfl,HB2.out⟩
  ·have hB:(!Lib.itoa v == s.toList)=true:=by rw[byteList s];simp[hE]
   have HE:Hid (Dec.num1 s.data.toList=(0,false)):=by unfold Dec.num1;rw[Hid,HX.out];simp[hE]
   clear hE
   go_wp2
   go_ret2
   exact⟨by rw[HE.out];rfl,HB2.out⟩
 ·have HX:Hid (∀v,Lib.parseIntB 64 s.data.toList≠.ok v):=fun v h=>hx ⟨v,h⟩
  have HE:Hid (Dec.num1 s.data.toList=(0,false)):=by
   unfold Dec.num1;rw[Hid]
   split
   ·rename_i v h;exact absurd h (HX.out v)
   ·rfl
  clear hx
  go_enter Tryz.func122,Tryz.ntmps122
  go_wp2_with fail
  refine (parse_bad w s (by omega) HX.out HV.out).mono ?_
  rintro e w1 ⟨x,N,rfl,hb1⟩
  go_wp2
  go_ret2
  exact⟨by rw[HE.out];rfl,hb1⟩
end Go.Proofs.YtlfooogmoigpfaaGreatDoor
namespace Go.Proofs.YtlfooogmoigpfaaGreatDoor
open Go.RowKit Go.Sort Go.Shelf
def digL:List UInt8:=[48,49,50,51,52,53,54,55,56,57,97,98,99,100,101,102]
theorem hexD_idx (c:UInt8) (hc:c.toNat < 128):Lib.indexByte digL c=(match hexD c with | none=>-1 | some d=>(d:Int))∧∀d,hexD c=some d→d < 16:=by
 have key:∀i:Fin 128,Lib.indexByte digL (UInt8.ofNat i.val)=(match hexD (UInt8.ofNat i.val) with | none=>-1 | some d=>(d:Int))∧((hexD (UInt8.ofNat i.val)).all (fun d=>decide (d < 16)))=true:=by decide
 have h:=key ⟨c.toNat,hc⟩
 have e:UInt8.ofNat c.toNat=c:=by simp
 simp only[e] at h
 refine⟨h.1,fun d hd=>?_⟩
 have h2:=h.2
 rw[hd] at h2
 simpa using h2
def optV (o:Option Nat):Value:=match o with
 | none=>.tuple #[Zi 0,.bool false]
 | some u=>.tuple #[Zi (i64N u),.bool true]
theorem i64N_wrap (u:Nat) (h:u < 18446744073709551616):IntKind.i64.wrap (u:Int)=i64N u:=by
 unfold i64N
 rw[IntKind.wrap_i64]
 split <;> omega
theorem shl_or (u d:Nat) (hd:d < 16):(16 * u) ||| d=16 * u+d:=by
 have h:=Nat.shiftLeft_add_eq_or_of_lt (b:=d) (i:=4) (by omega) u
 rw[Nat.shiftLeft_eq] at h
 rw[show 16 * u=u * 2 ^ 4 by omega,h]
theorem bits_step (u d:Nat) (hu:u < 1152921504606846976) (hd:d < 16):bits .or .u64 ((u:Int) * 16) (d:Int)=((16 * u+d:Nat):Int):=by
 rw[show (u:Int) * 16=((16 * u:Nat):Int) by omega,u64_or_nat _ _ (by omega) (by omega),shl_or u d hd]
theorem bitsOf_any (w:World) (l:List UInt8) (hl:l.length≤65536) (ha:∀b∈l,b.toNat < 128):Calls Tryz.prog 121 #[.string (S l)] w fun e w'=>e=.returned (if l.length=0∨16 < l.length then .tuple #[Zi 0,.bool false] else optV (bitsL l 0))∧Grew w w':=by
 have HG:Hid (Grew w w):=Grew.refl w
 have HG2:Hid (∀k,Grew w (w.iter (S l) k)):=fun k=>(Grew.refl w).alloc _
 have HA:=Zh ha
 obtain⟨n,hn⟩:=nm (l.length)
 have HN:=Zh hn
 have hsz:(S l).size=n:=by rw[S_size,hn]
 have HSz:=Zh hsz
 have hts:=S_toList l
 have hn9:n≤65536:=by omega
 rw[← hn]
 clear hn hl ha
 by_cases h0:n=0
 ·have hb:((S l).toList == [])=true:=by
   have:l=[]:=List.eq_nil_of_length_eq_zero (by rw[← HN.out];exact h0)
   rw[hts,this];rfl
  rw[if_pos (.inl h0)]
  clear h0 hts
  go_enter Tryz.func121,Tryz.ntmps121
  go_wp2_with fail
  go_ret2
  exact⟨rfl,HG.out⟩
 ·have hb:((S l).toList == [])=false:=by
   rw[hts]
   cases l with
   | nil=>exact absurd HN.out h0
   | cons _ _=>rfl
  by_cases h16:16 < n
  ·rw[if_pos (.inr h16)]
   have hI:(n:Int) > 16:=by omega
   clear h0 h16 hts
   go_enter Tryz.func121,Tryz.ntmps121
   go_wp2_with fail
   go_ret2
   exact⟨rfl,HG.out⟩
  ·rw[if_neg (by omega)]
   have hI:¬(n:Int) > 16:=by omega
   have hn16:n≤16:=by omega
   clear h0 h16 hts
   go_enter Tryz.func121,Tryz.ntmps121
   go_wp2_with fail
   go_loopw[4] (fun x wr=>∃(k u:Nat),k≤n∧x=.int .u64 (u:Int)∧wr=w.iter (S l) k∧Hid (bitsL (l.take k) 0=some u)) (fun _ wr=>n - wr.iterPos w.heap.size)
   case atStart=>exact⟨0,0,Nat.zero_le _,rfl,rfl,rfl⟩
   case round=>
    obtain⟨k,u,hk,rfl,rfl,HI⟩:=hrel
    by_cases hlt:k < n
    ·have hkl:k < l.length:=by rw[← HN.out];exact hlt
     have hnx:=fun ty=>run_next_any (P:=Tryz.prog) w (S l) k ty (by rw[HSz.out];exact hlt)
     have h128:l[k].toNat < 128:=HA.out _ (List.getElem_mem hkl)
     have hd:Utf8.decode (S l) k=(l[k].toNat,1):=by
      rcases sgn_at l k hkl with h1 | h1
      ·exact h1.2
      ·omega
     rw[hd] at hnx
     have HS1:Hid (l.take (k+1)=l.take k ++ [l[k]]):=List.take_succ_eq_append_getElem hkl
     have HS2:Hid (l=l.take k ++ l[k] :: l.drop (k+1)):=by show _=_;rw[← List.drop_eq_getElem_cons hkl,List.take_append_drop]
     have hu:u < 16 ^ k:=by
      have:=bitsL_lt _ _ _ HI.out
      rw[List.length_take,Nat.min_eq_left (by omega)] at this
      simpa using this
     have hu15:u < 1152921504606846976:=Nat.lt_of_lt_of_le hu (by
      have:16 ^ k≤16 ^ 15:=Nat.pow_le_pow_right (by omega) (by omega)
      exact this)
     have HX:=hexD_idx l[k] h128
     obtain⟨c,hc⟩:=nm (l[k])
     rw[← hc] at hnx h128 HX HS1 HS2
     simp only at hnx
     obtain⟨cn,hcn⟩:=nm (c.toNat)
     rw[← hcn] at hnx h128
     have HC:Hid (∀W,Calls Tryz.prog 123 #[.string ⟨#[48,49,50,51,52,53,54,55,56,57,97,98,99,100,101,102]⟩,.int .i32 (cn:Int)] W fun e w'=>e=.returned (Zi (Lib.indexByte digL c))∧w'=W):=fun W=>by
      have h1:=indexRune_lo W digL cn h128
      have e:UInt8.ofNat cn=c:=by rw[hcn];simp
      rw[e] at h1
      exact h1
     have HG3:=Zh (HG2.out (k+1))
     obtain⟨HX1,HX2⟩:=HX
     rw[HX1] at HC
     cases hh:hexD c with
     | none=>
      rw[hh] at HC
      simp only at HC
      have HF:Hid (bitsL l 0=none):=by
       show _=_
       rw[HS2.out,bitsL_app,HI.out]
       simp[bitsL,hh]
      clear HX1 HX2 hh hc hcn hd HI HS1 HS2 hu hu15
      go_wp2_with (first | (go_at_call 123;refine (HC.out _).mono ?_;rintro e wE ⟨rfl,hwE⟩;have hwE':=hwE.symm;subst hwE';clear hwE))
      go_ret2
      exact⟨by rw[HF.out];rfl,HG3.out⟩
     | some d=>
      rw[hh] at HC
      simp only at HC
      have hd16:=HX2 d hh
      have HB:Hid (bits .or .u64 ((u:Int) * 16) (d:Int)=((16 * u+d:Nat):Int)):=bits_step u d hu15 hd16
      have HF:Hid (bitsL (l.take (k+1)) 0=some (16 * u+d)):=by
       show _=_
       rw[HS1.out,bitsL_app,HI.out]
       simp[bitsL,hh]
      clear HX1 HX2 hh hc hcn hd HI HS1 HS2 hu
      go_wp2_with (first | (go_at_call 123;refine (HC.out _).mono ?_;rintro e wE ⟨rfl,hwE⟩;have hwE':=hwE.symm;subst hwE';clear hwE))
      go_roundw
      case rel=>exact⟨k+1,16 * u+d,by omega,by rw[HB.out],rfl,HF⟩
      case measure=>simp only[World.iterPos_iter];omega
    ·have hke:k=n:=by omega
     subst hke
     have hnx:=fun ty=>run_next_end (P:=Tryz.prog) w (S l) k ty (by rw[HSz.out];omega)
     have hu:u < 18446744073709551616:=by
      have:=bitsL_lt _ _ _ HI.out
      rw[List.length_take,Nat.min_eq_left (by rw[← HN.out];exact Nat.le_refl _)] at this
      have h2:16 ^ k≤16 ^ 16:=Nat.pow_le_pow_right (by omega) (by omega)
      have h3:16 ^ 16=18446744073709551616:=by decide
      omega
     have HF:Hid (bitsL l 0=some u):=by
      have h:=HI.out
      rw[List.take_of_length_le (by rw[← HN.out];exact Nat.le_refl _)] at h
      exact h
     have hw:=i64N_wrap u hu
     have HG3:=Zh (HG2.out k)
     clear HI
     go_wp2
     go_ret2
     exact⟨by rw[HF.out];rfl,HG3.out⟩
theorem numO_x {t:List UInt8} (h:[48,120].isPrefixOf t=true):Value.tuple #[Zi (numO t).1,.bool (numO t).2]=(if (t.drop 2).length=0∨16 < (t.drop 2).length then Value.tuple #[Zi 0,.bool false] else optV (bitsL (t.drop 2) 0)):=by
 have hl:=(List.isPrefixOf_iff_prefix.1 h).length_le
 simp only[List.length_cons,List.length_nil] at hl
 unfold numO
 rw[if_pos h]
 by_cases h1:t.length=2∨18 < t.length
 ·rw[if_pos h1,if_pos (by rw[List.length_drop];omega)]
 ·rw[if_neg h1,if_neg (by rw[List.length_drop];omega)]
  cases bitsL (t.drop 2) 0 <;> rfl
theorem numberOf_any (w:World) (t:List UInt8) (hl:t.length≤65536) (ha:∀b∈t,b.toNat < 128) (hv:NumVars w):Calls Tryz.prog 102 #[.string (S t)] w fun e w'=>e=.returned (.tuple #[Zi (numO t).1,.bool (numO t).2])∧Below w.heap.size w w':=by
 have HP:Hid (Calls Tryz.prog 98 #[.string (S t),.string ⟨#[48,120]⟩] w fun e w'=>e=.returned (.tuple #[.string (S (if [48,120].isPrefixOf t then t.drop 2 else t)),.bool ([48,120].isPrefixOf t)])∧w'=w):=cutPre_any w t [48,120]
 cases hb:[48,120].isPrefixOf t with
 | true=>
  rw[hb] at HP
  simp only[if_true] at HP
  have HB:=Zh (bitsOf_any w (t.drop 2) (by rw[List.length_drop];omega) (fun b h=>ha b (List.mem_of_mem_drop h)))
  have HE:=Zh (numO_x hb)
  obtain⟨V,hV⟩:=nm ((if (t.drop 2).length=0∨16 < (t.drop 2).length then Value.tuple #[Zi 0,.bool false] else optV (bitsL (t.drop 2) 0)))
  rw[← hV] at HB HE
  obtain⟨x,b,hxb⟩:∃x b,V=.tuple #[Zi x,.bool b]:=⟨_,_,HE.out.symm⟩
  subst hxb
  rw[show Value.tuple #[Zi (numO t).1,.bool (numO t).2]=Value.tuple #[Zi x,.bool b] from HE.out]
  clear hV HE hb ha hv hl
  go_enter Tryz.func102,Tryz.ntmps102
  go_wp2_with (first | (go_at_call 98;refine HP.out.mono ?_;rintro e wE ⟨rfl,hwE⟩;have hwE':=hwE.symm;subst hwE';clear hwE) | fail)
  refine HB.out.mono ?_
  rintro e w2 ⟨rfl,hg⟩
  have HG2:=Zh hg.below
  clear hg
  go_wp2_with fail
  go_ret2
  exact⟨rfl,HG2.out⟩
 | false=>
  rw[hb] at HP
  simp only[Bool.false_eq_true,if_false] at HP
  have HN:=Zh (number_any w (S t) (by rw[S_size];omega) hv)
  rw[S_list] at HN
  have e:numO t=Dec.num1 t:=by unfold numO;rw[hb];simp
  rw[e]
  obtain⟨⟨x,b⟩,hxb⟩:∃q,q=Dec.num1 t:=⟨_,rfl⟩
  rw[← hxb] at HN ⊢
  simp only at HN ⊢
  clear e hxb hb ha hv hl
  go_enter Tryz.func102,Tryz.ntmps102
  go_wp2_with (first | (go_at_call 98;refine HP.out.mono ?_;rintro e wE ⟨rfl,hwE⟩;have hwE':=hwE.symm;subst hwE';clear hwE) | fail)
  refine HN.out.mono ?_
  rintro e w2 ⟨rfl,hg⟩
  have HG2:=Zh hg
  clear hg
  go_wp2_with fail
  go_ret2
  exact⟨rfl,HG2.out⟩
def tkP:TK→Value
 | .ok k t n=>.tuple #[tkV k t n (0,0),Zi 0]
 | .er e=>.tuple #[tkV 0 [] 0 (0,0),Zi (e:Int)]
abbrev put5 (W:World) (R:Nat) (v0 v1 v2 v3 v4:Value):World:=((((W.setCell ⟨R,0,none⟩ v0).setCell ⟨R,1,none⟩ v1).setCell ⟨R,2,none⟩ v2).setCell ⟨R,3,none⟩ v3).setCell ⟨R,4,none⟩ v4
def Row5 (W:World) (R:Nat) (v0 v1 v2 v3 v4:Value):Prop:=W.heap[R]? = some (.cells #[v0,v1,v2,v3,v4] 83 (0,0))
theorem Row5.cells {W:World} {R:Nat} {v0 v1 v2 v3 v4:Value} (h:Row5 W R v0 v1 v2 v3 v4):(W.cell? ⟨R,0,none⟩=some v0∧W.cell? ⟨R,1,none⟩=some v1∧W.cell? ⟨R,2,none⟩=some v2∧W.cell? ⟨R,3,none⟩=some v3∧W.cell? ⟨R,4,none⟩=some v4)∧(W.frozen? ⟨R,0,none⟩=false∧W.frozen? ⟨R,1,none⟩=false∧W.frozen? ⟨R,2,none⟩=false∧W.frozen? ⟨R,3,none⟩=false∧W.frozen? ⟨R,4,none⟩=false):=by
 unfold Row5 at h
 exact⟨⟨by simp[World.cell?,h],by simp[World.cell?,h],by simp[World.cell?,h],by simp[World.cell?,h],by simp[World.cell?,h]⟩,frozen_of_row W R 0 _ _ h,frozen_of_row W R 1 _ _ h,frozen_of_row W R 2 _ _ h,frozen_of_row W R 3 _ _ h,frozen_of_row W R 4 _ _ h⟩
theorem Row5.put {W:World} {R:Nat} {a0 a1 a2 a3 a4:Value} (h:Row5 W R a0 a1 a2 a3 a4) (v0 v1 v2 v3 v4:Value):Row5 (put5 W R v0 v1 v2 v3 v4) R v0 v1 v2 v3 v4:=
 heap_setCell_same _ R 4 _ _ _ (heap_setCell_same _ R 3 _ _ _ (heap_setCell_same _ R 2 _ _ _ (heap_setCell_same _ R 1 _ _ _ (heap_setCell_same W R 0 _ _ _ h))))
theorem Row5.new (w:World) (v0 v1 v2 v3 v4:Value):Row5 (w.alloc (.cells #[v0,v1,v2,v3,v4] 83)) w.heap.size v0 v1 v2 v3 v4:=heap_alloc_new _ _ rfl
theorem Row5.kept {w w':World} {R:Nat} {v0 v1 v2 v3 v4:Value} (h:Row5 w R v0 v1 v2 v3 v4) (hb:Below w.heap.size w w'):Row5 w' R v0 v1 v2 v3 v4:=(hb.block _ (blk_lt h)).trans h
theorem put5_below {C:Nat} {W0 W:World} (hb:Below C W0 W) {R:Nat} (hR:C≤R) (v0 v1 v2 v3 v4:Value):Below C W0 (put5 W R v0 v1 v2 v3 v4):=((((hb.setCell (p:=⟨R,0,none⟩) hR v0).setCell (p:=⟨R,1,none⟩) hR v1).setCell (p:=⟨R,2,none⟩) hR v2).setCell (p:=⟨R,3,none⟩) hR v3).setCell (p:=⟨R,4,none⟩) hR v4
theorem numberToken_any (w:World) (t:List UInt8) (hl:t.length≤65536) (ha:∀b∈t,b.toNat < 128) (hv:NumVars w):Calls Tryz.prog 71 #[.string (S t)] w fun e w'=>e=.returned (tkP (if (numO t).2 then .ok 3 t (numO t).1 else .er 41))∧Below w.heap.size w w':=by
 obtain⟨W1,hW1⟩:=nm (w.alloc (.cells #[Zi 0,Ze,Zi 0,Zi 0,Zi 0] 83))
 have hb1:Below w.heap.size w W1:=by rw[hW1];exact (Below.refl _ _).alloc (Nat.le_refl _) _
 have HB1:=Zh hb1
 have HN:=Zh (numberOf_any W1 t hl ha (hv.kept hb1))
 obtain⟨R,hR⟩:=nm (w.heap.size)
 have HR:Hid (Row5 W1 R (Zi 0) (Ze) (Zi 0) (Zi 0) (Zi 0)):=by show Row5 _ _ _ _ _ _ _;rw[hW1,hR];exact Row5.new _ _ _ _ _ _
 have HRl:Hid (w.heap.size≤R):=by show w.heap.size≤R;omega
 obtain⟨⟨x,b⟩,hxb⟩:∃q,q=numO t:=⟨_,rfl⟩
 rw[← hxb] at HN ⊢
 simp only at HN ⊢
 clear hxb ha hv hl hb1
 cases b with
 | false=>
  go_enter Tryz.func71,Tryz.ntmps71
  go_wp2_with fail
  rw[← hW1,← hR]
  clear hW1 hR
  refine HN.out.mono ?_
  rintro e w2 ⟨rfl,hg⟩
  have HG2:Hid (Below w.heap.size w w2):=HB1.out.trans (hg.mono HB1.out.size)
  have HR2:=Zh (HR.out.kept hg)
  obtain⟨⟨c0,c1,c2,c3,c4⟩,f0,f1,f2,f3,f4⟩:=HR2.out.cells
  have HP:Hid (∀v0 v1 v2 v3 v4,Row5 (put5 w2 R v0 v1 v2 v3 v4) R v0 v1 v2 v3 v4∧Below w.heap.size w (put5 w2 R v0 v1 v2 v3 v4)):=fun v0 v1 v2 v3 v4=>⟨HR2.out.put v0 v1 v2 v3 v4,put5_below HG2.out HRl.out v0 v1 v2 v3 v4⟩
  clear hg HR2 HN
  go_wp2_with fail
  obtain⟨hr,hb⟩:=HP.out (Zi 0) (Ze) (Zi 0) (Zi 0) (Zi 0)
  obtain⟨⟨d0,d1,d2,d3,d4⟩,_⟩:=hr.cells
  exact bodyPost_ret (v:=.tuple #[.agg #[Zi 0,Ze,Zi 0,Zi 0,Zi 0],Zi 41]) (by simp[results,Tryz.results71,go_sem,d0,d1,d2,d3,d4]) rfl ⟨rfl,hb⟩
 | true=>
  go_enter Tryz.func71,Tryz.ntmps71
  go_wp2_with fail
  rw[← hW1,← hR]
  clear hW1 hR
  refine HN.out.mono ?_
  rintro e w2 ⟨rfl,hg⟩
  have HG2:Hid (Below w.heap.size w w2):=HB1.out.trans (hg.mono HB1.out.size)
  have HR2:=Zh (HR.out.kept hg)
  obtain⟨⟨c0,c1,c2,c3,c4⟩,f0,f1,f2,f3,f4⟩:=HR2.out.cells
  have HP:Hid (∀v0 v1 v2 v3 v4,Row5 (put5 w2 R v0 v1 v2 v3 v4) R v0 v1 v2 v3 v4∧Below w.heap.size w (put5 w2 R v0 v1 v2 v3 v4)):=fun v0 v1 v2 v3 v4=>⟨HR2.out.put v0 v1 v2 v3 v4,put5_below HG2.out HRl.out v0 v1 v2 v3 v4⟩
  clear hg HR2 HN
  go_wp2_with fail
  obtain⟨hr,hb⟩:=HP.out (Zi 3) (.string (S t)) (Zi x) (Zi 0) (Zi 0)
  obtain⟨⟨d0,d1,d2,d3,d4⟩,_⟩:=hr.cells
  exact bodyPost_ret (v:=.tuple #[.agg #[Zi 3,.string (S t),Zi x,Zi 0,Zi 0],Zi 0]) (by simp[results,Tryz.results71,go_sem,d0,d1,d2,d3,d4]) rfl ⟨rfl,hb⟩
theorem leC_hi {c:Nat} (h:128≤c):leC c=false:=by
 simp[leC]
 omega
theorem diC_hi {c:Nat} (h:128≤c):diC c=false:=by
 simp[diC]
 omega
theorem first_le {l:List UInt8} (hl:l≠[]):leC (dcR l)=leC (c0 l)∧diC (dcR l)=diC (c0 l):=by
 obtain⟨c,r,rfl⟩:=List.exists_cons_of_ne_nil hl
 show leC _=leC c.toNat∧diC _=diC c.toNat
 by_cases h:c.toNat < 128
 ·rw[dcR_lo h];exact⟨rfl,rfl⟩
 ·have h1:=dcR_hi (c:=c) (r:=r) (by omega)
  rw[leC_hi h1,diC_hi h1,leC_hi (by omega),diC_hi (by omega)]
  exact⟨rfl,rfl⟩
theorem word_ascii {l:List UInt8} : ∀b∈l.take (frB woC l),b.toNat < 128:=fun b hb=>by
 obtain⟨i,hi,rfl⟩:=List.getElem_of_mem hb
 rw[List.length_take] at hi
 have h1:=frB_in woC l i (by omega)
 rw[List.getElem_take]
 have h2:¬128≤(l[i]'(by omega)).toNat:=fun h=>by rw[woC_hi h] at h1;cases h1
 omega
theorem tokenAhead_any (w:World) (l:List UInt8) (hl:l≠[]) (hl9:l.length≤65536) (hT:TabsOK w) (hP:PairVar w) (hN:NumVars w):Calls Tryz.prog 40 #[.string (S l)] w fun e w'=>e=.returned (tkP (tokA l))∧Below w.heap.size w w':=by
 obtain⟨W1,hW1⟩:=nm (w.alloc (.cells #[Zi 0,Ze,Zi 0,Zi 0,Zi 0] 83))
 have hb1:Below w.heap.size w W1:=by rw[hW1];exact (Below.refl _ _).alloc (Nat.le_refl _) _
 obtain⟨R,hR⟩:=nm (w.heap.size)
 have hR1:Row5 W1 R (Zi 0) (Ze) (Zi 0) (Zi 0) (Zi 0):=by rw[hW1,hR];exact Row5.new _ _ _ _ _ _
 have hRl:w.heap.size≤R:=by omega
 have HW:Hid (∀U,Below W1.heap.size W1 U→TabsOK U∧PairVar U∧NumVars U∧Row5 U R (Zi 0) (Ze) (Zi 0) (Zi 0) (Zi 0)∧Below w.heap.size w U):=fun U hU=>by
  have h2:=hb1.trans (hU.mono hb1.size)
  exact⟨hT.kept h2,hP.kept h2,hN.kept h2,hR1.kept hU,h2⟩
 have HPut:Hid (∀U,Below W1.heap.size W1 U→∀v0 v1 v2 v3 v4,Row5 (put5 U R v0 v1 v2 v3 v4) R v0 v1 v2 v3 v4∧Below w.heap.size w (put5 U R v0 v1 v2 v3 v4)):=fun U hU v0 v1 v2 v3 v4=>⟨(hR1.kept hU).put v0 v1 v2 v3 v4,put5_below (hb1.trans (hU.mono hb1.size)) hRl v0 v1 v2 v3 v4⟩
 have HD:=Zh (decode_any W1 l (hT.kept hb1))
 have HLt:Hid (∀U,Calls Tryz.prog 66 #[.int .i32 (dcR l:Nat)] U fun e w'=>e=.returned (.bool (leC (c0 l)))∧w'=U):=fun U=>by rw[← (first_le hl).1];exact isLetter_any U _ (dcR_le l)
 have HDg:Hid (∀U,Calls Tryz.prog 70 #[.int .i32 (dcR l:Nat)] U fun e w'=>e=.returned (.bool (diC (c0 l)))∧w'=U):=fun U=>by rw[← (first_le hl).2];exact isDigit_any U _ (dcR_le l)
 have HFr:Hid (∀U,Calls Tryz.prog 68 #[.string (S l),fnV 69] U fun e w'=>e=.returned (Zi (frB woC l:Nat))∧Grew U w'):=fun U=>frontW_any U l hl9
 have HWt:Hid (∀U,Calls Tryz.prog 67 #[.string (S (l.take (frB woC l)))] U fun e w'=>e=.returned (tkV (if isOwn (l.take (frB woC l)) then 2 else 1) (l.take (frB woC l)) 0 (0,0))∧Below U.heap.size U w'):=fun U=>wordToken_any U _
 have HNt:Hid (∀U,NumVars U→Calls Tryz.prog 71 #[.string (S (l.take (frB woC l)))] U fun e w'=>e=.returned (tkP (if (numO (l.take (frB woC l))).2 then .ok 3 (l.take (frB woC l)) (numO (l.take (frB woC l))).1 else .er 41))∧Below U.heap.size U w'):=fun U hU=>numberToken_any U _ (by rw[List.length_take];omega) word_ascii hU
 have HSg:Hid (∀U,PairVar U→Calls Tryz.prog 72 #[.string (S l),.int .i32 (dcR l:Nat)] U fun e w'=>e=.returned (.string (S (sgT l)))∧Grew U w'):=fun U hU=>signAhead_any U l hl hl9 hU
 have hfm:=frB_le woC l
 have x1:(S l).extract 0 (frB woC l)=S (l.take (frB woC l)):=by rw[S_cut,List.drop_zero]
 obtain⟨m,hm⟩:=nm (l.length)
 have hsz:(S l).size=m:=by rw[S_size,hm]
 have hm9:m≤65536:=by omega
 have HTk:Hid (tokA l=if leC (c0 l) then .ok (if isOwn (l.take (frB woC l)) then 2 else 1) (l.take (frB woC l)) 0
  else if diC (c0 l) then (if (numO (l.take (frB woC l))).2 then .ok 3 (l.take (frB woC l)) (numO (l.take (frB woC l))).1 else .er 41)
  else if (sgT l)=[] then .er 180 else .ok 4 (sgT l) 0):=by
  show _=_
  unfold tokA sgT
  by_cases h2:[47,42].isPrefixOf l=true
  ·simp[h2]
  ·by_cases h3:sgN l=0
   ·simp[h2,h3]
   ·simp[h2,h3,hl]
 rw[← hm] at hfm
 have hfI:(frB woC l:Int)≤(m:Int):=by omega
 have hts:=S_toList (sgT l)
 generalize leC (c0 l)=b1 at *
 generalize diC (c0 l)=b2 at *
 generalize (Lib.decodeGo (S l)).2=dw at *
 generalize dcR l=d at *
 generalize sgT l=sg at *
 generalize tokA l=tk at *
 clear hT hP hN hl hl9 hb1 hR1 hRl hm
 cases b1 with
 | true=>
  have e:tk=.ok (if isOwn (l.take (frB woC l)) then 2 else 1) (l.take (frB woC l)) 0:=by have h:=HTk.out;simpa using h
  subst e
  clear HTk hts
  generalize frB woC l=fw at *
  generalize l.take fw=t at *
  generalize hk:(if isOwn t then 2 else 1)=k at *
  have HWt2:Hid (∀U,Calls Tryz.prog 67 #[.string (S t)] U fun e w'=>e=.returned (tkV ((k:Nat):Int) t 0 (0,0))∧Below U.heap.size U w'):=fun U=>by
   refine (HWt.out U).mono fun e w' ⟨a1,a2⟩=>⟨?_,a2⟩
   rw[a1,← hk]
   cases isOwn t <;> rfl
  clear hk HWt
  go_enter Tryz.func40,Tryz.ntmps40
  go_wp2_with fail
  rw[← hW1,← hR]
  clear hW1 hR
  refine HD.out.mono ?_
  rintro e w2 ⟨rfl,hb2⟩
  have HB2:=Zh hb2
  clear hb2 HD
  go_wp2_with (first | (go_at_call 66;refine (HLt.out _).mono ?_;rintro e wE ⟨rfl,hwE⟩;have hwE':=hwE.symm;subst hwE';clear hwE) | (go_at_call 70;refine (HDg.out _).mono ?_;rintro e wE ⟨rfl,hwE⟩;have hwE':=hwE.symm;subst hwE';clear hwE) | fail)
  refine (HFr.out _).mono ?_
  rintro e w3 ⟨rfl,hg3⟩
  have HB3:Hid (Below W1.heap.size W1 w3):=HB2.out.trans (hg3.below.mono HB2.out.size)
  clear hg3
  go_wp2_with fail
  refine (HWt2.out _).mono ?_
  rintro e w4 ⟨rfl,hb4⟩
  have HB4:Hid (Below W1.heap.size W1 w4):=HB3.out.trans (hb4.mono HB3.out.size)
  clear hb4
  obtain⟨-,-,-,hrow,-⟩:=HW.out _ HB4.out
  obtain⟨⟨q0,q1,q2,q3,q4⟩,f0,f1,f2,f3,f4⟩:=hrow.cells
  clear hrow
  go_wp2_with fail
  obtain⟨hr,hb⟩:=HPut.out _ HB4.out (Zi (k:Int)) (.string (S t)) (Zi 0) (Zi 0) (Zi 0)
  obtain⟨⟨d0,d1,d2,d3,d4⟩,_⟩:=hr.cells
  exact bodyPost_ret (v:=.tuple #[.agg #[Zi (k:Int),.string (S t),Zi 0,Zi 0,Zi 0],Zi 0]) (by simp[results,Tryz.results40,go_sem,d0,d1,d2,d3,d4]) rfl ⟨rfl,hb⟩
 | false=>
  cases b2 with
  | true=>
   have e:tk=(if (numO (l.take (frB woC l))).2 then .ok 3 (l.take (frB woC l)) (numO (l.take (frB woC l))).1 else .er 41):=by have h:=HTk.out;simpa using h
   subst e
   clear HTk hts
   generalize frB woC l=fw at *
   generalize l.take fw=t at *
   obtain⟨k,t',n,e9,hV⟩:∃(k:Int) (t':List UInt8) (n e9:Int),tkP (if (numO t).2 then .ok 3 t (numO t).1 else .er 41)=.tuple #[tkV k t' n (0,0),Zi e9]:=by
    cases (numO t).2
    ·exact⟨0,[],0,41,rfl⟩
    ·exact⟨3,t,(numO t).1,0,rfl⟩
   rw[hV] at HNt ⊢
   clear hV
   go_enter Tryz.func40,Tryz.ntmps40
   go_wp2_with fail
   rw[← hW1,← hR]
   clear hW1 hR
   refine HD.out.mono ?_
   rintro e w2 ⟨rfl,hb2⟩
   have HB2:=Zh hb2
   clear hb2 HD
   go_wp2_with (first | (go_at_call 66;refine (HLt.out _).mono ?_;rintro e wE ⟨rfl,hwE⟩;have hwE':=hwE.symm;subst hwE';clear hwE) | (go_at_call 70;refine (HDg.out _).mono ?_;rintro e wE ⟨rfl,hwE⟩;have hwE':=hwE.symm;subst hwE';clear hwE) | fail)
   refine (HFr.out _).mono ?_
   rintro e w3 ⟨rfl,hg3⟩
   have HB3:Hid (Below W1.heap.size W1 w3):=HB2.out.trans (hg3.below.mono HB2.out.size)
   clear hg3
   go_wp2_with fail
   refine (HNt.out _ (HW.out _ HB3.out).2.2.1).mono ?_
   rintro e w4 ⟨rfl,hb4⟩
   have HB4:Hid (Below W1.heap.size W1 w4):=HB3.out.trans (hb4.mono HB3.out.size)
   clear hb4
   obtain⟨-,-,-,hrow,-⟩:=HW.out _ HB4.out
   obtain⟨⟨q0,q1,q2,q3,q4⟩,f0,f1,f2,f3,f4⟩:=hrow.cells
   clear hrow
   go_wp2_with fail
   obtain⟨hr,hb⟩:=HPut.out _ HB4.out (Zi k) (.string (S t')) (Zi n) (Zi 0) (Zi 0)
   obtain⟨⟨d0,d1,d2,d3,d4⟩,_⟩:=hr.cells
   exact bodyPost_ret (v:=.tuple #[.agg #[Zi k,.string (S t'),Zi n,Zi 0,Zi 0],Zi e9]) (by simp[results,Tryz.results40,go_sem,d0,d1,d2,d3,d4]) rfl ⟨rfl,hb⟩
  | false=>
   have e:tk=if sg=[] then .er 180 else .ok 4 sg 0:=by have h:=HTk.out;simpa using h
   subst e
   clear HTk
   by_cases h0:sg=[]
   ·have hq:((S sg).toList == [])=true:=by rw[hts,h0];rfl
    rw[if_pos h0]
    clear h0 hts
    generalize S sg=u at *
    go_enter Tryz.func40,Tryz.ntmps40
    go_wp2_with fail
    rw[← hW1,← hR]
    clear hW1 hR
    refine HD.out.mono ?_
    rintro e w2 ⟨rfl,hb2⟩
    have HB2:=Zh hb2
    clear hb2 HD
    go_wp2_with (first | (go_at_call 66;refine (HLt.out _).mono ?_;rintro e wE ⟨rfl,hwE⟩;have hwE':=hwE.symm;subst hwE';clear hwE) | (go_at_call 70;refine (HDg.out _).mono ?_;rintro e wE ⟨rfl,hwE⟩;have hwE':=hwE.symm;subst hwE';clear hwE) | fail)
    refine (HSg.out _ (HW.out _ HB2.out).2.1).mono ?_
    rintro e w3 ⟨rfl,hg3⟩
    have HB3:Hid (Below W1.heap.size W1 w3):=HB2.out.trans (hg3.below.mono HB2.out.size)
    clear hg3
    obtain⟨-,-,-,hrow,-⟩:=HW.out _ HB3.out
    obtain⟨⟨q0,q1,q2,q3,q4⟩,f0,f1,f2,f3,f4⟩:=hrow.cells
    clear hrow
    go_wp2_with fail
    obtain⟨hr,hb⟩:=HPut.out _ HB3.out (Zi 0) (Ze) (Zi 0) (Zi 0) (Zi 0)
    obtain⟨⟨d0,d1,d2,d3,d4⟩,_⟩:=hr.cells
    exact bodyPost_ret (v:=.tuple #[.agg #[Zi 0,Ze,Zi 0,Zi 0,Zi 0],Zi 180]) (by simp[results,Tryz.results40,go_sem,d0,d1,d2,d3,d4]) rfl ⟨rfl,hb⟩
   ·have hq:((S sg).toList == [])=false:=by rw[hts];cases sg with | nil=>exact absurd rfl h0 | cons _ _=>rfl
    rw[if_neg h0]
    clear h0 hts
    have HV:Hid (tkP (.ok 4 sg 0)=.tuple #[.agg #[Zi 4,.string (S sg),Zi 0,Zi 0,Zi 0],Zi 0]):=rfl
    rw[HV.out]
    clear HV
    generalize S sg=u at *
    go_enter Tryz.func40,Tryz.ntmps40
    go_wp2_with fail
    rw[← hW1,← hR]
    clear hW1 hR
    refine HD.out.mono ?_
    rintro e w2 ⟨rfl,hb2⟩
    have HB2:=Zh hb2
    clear hb2 HD
    go_wp2_with (first | (go_at_call 66;refine (HLt.out _).mono ?_;rintro e wE ⟨rfl,hwE⟩;have hwE':=hwE.symm;subst hwE';clear hwE) | (go_at_call 70;refine (HDg.out _).mono ?_;rintro e wE ⟨rfl,hwE⟩;have hwE':=hwE.symm;subst hwE';clear hwE) | fail)
    refine (HSg.out _ (HW.out _ HB2.out).2.1).mono ?_
    rintro e w3 ⟨rfl,hg3⟩
    have HB3:Hid (Below W1.heap.size W1 w3):=HB2.out.trans (hg3.below.mono HB2.out.size)
    clear hg3
    obtain⟨-,-,-,hrow,-⟩:=HW.out _ HB3.out
    obtain⟨⟨q0,q1,q2,q3,q4⟩,f0,f1,f2,f3,f4⟩:=hrow.cells
    clear hrow
    go_wp2_with fail
    obtain⟨hr,hb⟩:=HPut.out _ HB3.out (Zi 4) (.string u) (Zi 0) (Zi 0) (Zi 0)
    obtain⟨⟨d0,d1,d2,d3,d4⟩,_⟩:=hr.cells
    exact bodyPost_ret (v:=.tuple #[.agg #[Zi 4,.string u,Zi 0,Zi 0,Zi 0],Zi 0]) (by simp[results,Tryz.results40,go_sem,d0,d1,d2,d3,d4]) rfl ⟨rfl,hb⟩
theorem ownsRow_same {w w1:World} {base e size n:Nat} {v:Value} {xs:List Value} (h:w.ownsRow base e size v n xs) (hs:∀g,v.ownBlock=some g→w1.heap[g]? = w.heap[g]?):w1.ownsRow base e size v n xs:=by
 obtain⟨hl,h⟩:=h
 refine⟨hl,?_⟩
 rcases h with h | ⟨g,cap,cur,rfl,hg,hh,r⟩
 ·exact .inl h
 ·exact .inr ⟨g,cap,cur,rfl,hg,(hs g rfl).trans hh,r⟩
theorem ownsRow_mono {w:World} {base base' e size n:Nat} {v:Value} {xs:List Value} (h:w.ownsRow base e size v n xs) (hb:base'≤base):w.ownsRow base' e size v n xs:=by
 obtain⟨hl,h⟩:=h
 refine⟨hl,?_⟩
 rcases h with h | ⟨g,cap,cur,rfl,hg,r⟩
 ·exact .inl h
 ·exact .inr ⟨g,cap,cur,rfl,by omega,r⟩
theorem own_slice {w:World} {base e size n:Nat} {v:Value} {xs:List Value} (h:w.ownsRow base e size v n xs):∃ao cap,v=.slice ao n cap∧(ao=none→cap=0∧n=0)∧n≤cap∧(∀a,ao=some a→a=⟨a.block,0,none⟩∧base≤a.block∧a.block < w.heap.size):=by
 obtain⟨_,⟨rfl,rfl⟩ | ⟨g,cap,cur,rfl,hb,hg,hn,_⟩⟩:=h
 ·exact⟨none,0,rfl,fun _=>⟨rfl,rfl⟩,Nat.le_refl _,fun a e=>by cases e⟩
 ·exact⟨some ⟨g,0,none⟩,cap,rfl,fun e=>(by cases e),hn,fun a e=>by cases e;exact⟨rfl,hb,(Array.getElem?_eq_some_iff.1 hg).1⟩⟩
theorem wpList_append_gen {w:World} {ops:Array Oper} {rest:List Oper} {o:Oper} {a:Act} {Q:Exit→Act→World→Prop} (hgd:o.guard=none) (s x:Operand) (t e:TypeId) (i0:TypeInfo) (z:Value) (size bytes:Nat) (ht:Tryz.prog.underlying t=some (.slice e)) (hi:Tryz.prog.info? e=some i0) (hz0:i0.zero=some z) (hz1:i0.size=size) (hz2:i0.bytes=bytes) (hzs:z.cells.size=size) (hsz:0 < size)
  (ho:o.op=.call { callee:=.builtin .append,args:=#[s,x],argTypes:=#[t,t] }) (base:Nat) (v:Value) (n:Nat) (xs:List Value) (hs:a.eval s=v) (hown:w.ownsRow base e size v n xs)
  (ad:Addr) (m c:Nat) (ys:List Value) (hx:a.eval x=.slice (some ad) m c) (hl:ys.length=m * size) (hc:∀j u,ys[j]? = some u→w.cell? (ad.add j)=some u) (h1:∀u∈ys,u.oneCell'=true) (hm:n+m≤maxLen) (hb:(n+m) * bytes≤140737488355328) (hbase:base≤w.heap.size)
  (h:∀v' w',w'.ownsRow base e size v' (n+m) (xs ++ ys)→w.grownBy w' v.ownBlock→wpList Tryz.prog ops Q rest (a.put o.dst v') w'):wpList Tryz.prog ops Q (o :: rest) a w:=by
 obtain⟨v',w',hr,h2,h3,_,h5⟩:=run_append_own_at (P:=Tryz.prog) w base t o.type e i0 z size bytes ht hi hz0 hz1 hz2 hzs hsz v n xs hown ad m c ys hl hc h1 hm hb hbase
 refine wpList_plain hgd fun K hK'=>?_
 unfold Oper.wp
 simp[execOp,ho,resolve,invoke,builtin,hs,hx,hr,Result.andThen]
 exact hK' _ _ (h v' w' h2 h3)
def CellsAt (w:World) (ao:Option Addr) (xs:List Value):Prop:=xs=[]∨∃b off,ao=some ⟨b,off,none⟩∧∀j u,xs[j]? = some u→w.cell? ⟨b,off+j,none⟩=some u
theorem own_read {w:World} {base e size n cap:Nat} {ao:Option Addr} {xs:List Value} (h:w.ownsRow base e size (.slice ao n cap) n xs):CellsAt w ao xs:=by
 have h0:=h
 obtain⟨hl,⟨h1,h2⟩ | ⟨g,cap',cur,e1,_⟩⟩:=h
 ·subst h2;exact .inl (List.eq_nil_of_length_eq_zero (by rw[hl,Nat.zero_mul]))
 ·cases e1
  refine .inr ⟨g,0,rfl,fun j u hu=>?_⟩
  have hj:j < n * size:=by rw[← hl];exact (List.getElem?_eq_some_iff.1 hu).1
  rw[Nat.zero_add,World.ownsRow.cellAt h0 j hj,hu]
theorem below_grownS {w w1:World} {row:Option Nat} {B:Nat} (h:w.grownBy w1 row) (hr:∀k,row=some k→B≤k) (hB:B≤w.heap.size):Below B w w1:=
 ⟨h.os,h.tape,h.output,h.size,fun k hk=>h.block k (Nat.lt_of_lt_of_le hk hB) (fun e=>by have:=hr k e.symm;omega)⟩
theorem addr_add (b off j:Nat):(⟨b,off,none⟩:Addr).add j=⟨b,off+j,none⟩:=by unfold Addr.add;split <;> simp_all
theorem src_at (W:World) (ys:List Value) (e:Nat):∀j u,ys[j]? = some u→(W.alloc (.cells ys.toArray e)).cell? ((⟨W.heap.size,0,none⟩:Addr).add j)=some u:=fun j u hu=>by
 rw[addr_add,World.cell?,heap_alloc_new _ _ rfl,Nat.zero_add];simpa using hu
theorem bel_al (W:World) (o:Obj):Below W.heap.size W (W.alloc o):=(Below.refl _ _).alloc (Nat.le_refl _) _
theorem info_tok:(Tryz.prog.info? 83).map (fun i=>(i.zero,i.size,i.bytes))=some (some (.agg #[Zi 0,Ze,Zi 0,Zi 0,Zi 0]),5,48):=by kernel_rfl
def tokC (t:Tok):List Value:=[Zi (t.1:Int),.string (S t.2.1),Zi t.2.2.1,Zi (t.2.2.2.1:Int),Zi (t.2.2.2.2:Int)]
def tkc (ts:List Tok):List Value:=ts.flatMap tokC
theorem tkc_app (a b:List Tok):tkc (a ++ b)=tkc a ++ tkc b:=by simp[tkc]
theorem tkc_one (t:Tok):tkc [t]=tokC t:=by simp[tkc]
theorem tkc_len:∀l:List Tok,(tkc l).length=l.length * 5
 | []=>rfl
 | t :: l=>by
  have e:tkc (t :: l)=tokC t ++ tkc l:=by simp[tkc]
  rw[e,List.length_append,tkc_len l]
  simp[tokC]
  omega
def OwnT (w:World) (base:Nat) (v:Value) (ts:List Tok):Prop:=w.ownsRow base 83 5 v ts.length (tkc ts)
theorem OwnT.nil (w:World) (base:Nat):OwnT w base (Zn) []:=⟨rfl,.inl ⟨rfl,rfl⟩⟩
theorem OwnT.kept {w w':World} {base:Nat} {v:Value} {ts:List Tok} (h:OwnT w base v ts) (hb:Below w.heap.size w w'):OwnT w' base v ts:=ownsRow_same h (fun g hg=>hb.block g (World.ownsRow.lt h g hg).2)
def TsC (W:World) (g o:Nat) (ts:List Tok):Prop:=∀j u,(tkc ts)[j]? = some u→W.cell? ⟨g,o+j,none⟩=some u
theorem TsC.tail {W:World} {g o:Nat} {t:Tok} {r:List Tok} (h:TsC W g o (t :: r)):TsC W g (o+5) r:=fun j u hu=>by
 have e:tkc (t :: r)=tokC t ++ tkc r:=by simp[tkc]
 have h1:=h (5+j) u (by rw[e,List.getElem?_append_right (by simp[tokC])];simpa [tokC] using hu)
 rw[show o+5+j=o+(5+j) by omega]
 exact h1
theorem TsC.head {W:World} {g o:Nat} {t:Tok} {r:List Tok} (h:TsC W g o (t :: r)):W.cell? ⟨g,o,none⟩=some (Zi (t.1:Int))∧W.cell? ⟨g,o+1,none⟩=some (.string (S t.2.1))∧W.cell? ⟨g,o+2,none⟩=some (Zi t.2.2.1)∧W.cell? ⟨g,o+3,none⟩=some (Zi (t.2.2.2.1:Int))∧W.cell? ⟨g,o+4,none⟩=some (Zi (t.2.2.2.2:Int)):=by
 have e:tkc (t :: r)=tokC t ++ tkc r:=by simp[tkc]
 have key:∀j (hj:j < 5),W.cell? ⟨g,o+j,none⟩=some ((tokC t)[j]'(by simpa [tokC] using hj)):=fun j hj=>h j _ (by rw[e,List.getElem?_append_left (by simp[tokC];omega)];exact List.getElem?_eq_getElem _)
 exact⟨key 0 (by omega),key 1 (by omega),key 2 (by omega),key 3 (by omega),key 4 (by omega)⟩
theorem TsC.same {W W':World} {g o:Nat} {ts:List Tok} (h:TsC W g o ts) (hs:W'.heap[g]? = W.heap[g]?):TsC W' g o ts:=fun j u hu=>by
 have:=h j u hu
 simp only[World.cell?] at this ⊢
 rw[hs];exact this
def TsAt (W:World) (rb:Nat) (v:Value) (ts:List Tok):Prop:=∃ao c,v=.slice ao ts.length c∧ts.length≤c∧(ts=[]∨∃g o,ao=some ⟨g,o,none⟩∧g < rb∧TsC W g o ts)
structure RdB (W:World) (rb:Nat) (ts:List Tok) (en:Nat × Nat) (nest:Nat) (v:Value):Prop where
 box:W.heap[rb]? = some (.cells #[v,Zi (en.1:Int),Zi (en.2:Int),Zi (nest:Int)] 57 (0,0))
 tok:TsAt W rb v ts
theorem TsAt.same {W W':World} {rb:Nat} {v:Value} {ts:List Tok} (h:TsAt W rb v ts) (hs:∀k,k < rb→W'.heap[k]? = W.heap[k]?):TsAt W' rb v ts:=by
 obtain⟨ao,c,h1,h2,h3⟩:=h
 refine⟨ao,c,h1,h2,?_⟩
 rcases h3 with h3 | ⟨g,o,e,hg,h3⟩
 ·exact .inl h3
 ·exact .inr ⟨g,o,e,hg,h3.same (hs g hg)⟩
theorem RdB.kept {W W':World} {rb:Nat} {ts:List Tok} {en:Nat × Nat} {nest:Nat} {v:Value} (h:RdB W rb ts en nest v) (hb:Below W.heap.size W W'):RdB W' rb ts en nest v:=
 ⟨(hb.block _ (blk_lt h.box)).trans h.box,h.tok.same (fun k hk=>hb.block k (Nat.lt_trans hk (blk_lt h.box)))⟩
theorem RdB.cells {W:World} {rb:Nat} {ts:List Tok} {en:Nat × Nat} {nest:Nat} {v:Value} (h:RdB W rb ts en nest v):(W.cell? ⟨rb,0,none⟩=some v∧W.cell? ⟨rb,1,none⟩=some (Zi (en.1:Int))∧W.cell? ⟨rb,2,none⟩=some (Zi (en.2:Int))∧W.cell? ⟨rb,3,none⟩=some (Zi (nest:Int)))∧W.frozen? ⟨rb,0,none⟩=false∧W.frozen? ⟨rb,3,none⟩=false:=by
 have h1:=h.box
 exact⟨⟨by simp[World.cell?,h1],by simp[World.cell?,h1],by simp[World.cell?,h1],by simp[World.cell?,h1]⟩,frozen_of_row W rb 0 _ _ h1,frozen_of_row W rb 3 _ _ h1⟩
theorem RdB.rest {W:World} {rb:Nat} {ts ts':List Tok} {en:Nat × Nat} {nest:Nat} {v v':Value} (h:RdB W rb ts en nest v) (ht:TsAt W rb v' ts'):RdB (W.setCell ⟨rb,0,none⟩ v') rb ts' en nest v'∧T1 rb W (W.setCell ⟨rb,0,none⟩ v'):=
 ⟨⟨heap_setCell_same W rb 0 _ _ v' h.box,ht.same (fun k hk=>heap_setCell_other W ⟨rb,0,none⟩ k v' (by show k≠rb;omega))⟩,T1.set⟩
theorem RdB.deep {W:World} {rb:Nat} {ts:List Tok} {en:Nat × Nat} {nest:Nat} {v:Value} (h:RdB W rb ts en nest v) (n:Nat):RdB (W.setCell ⟨rb,3,none⟩ (Zi (n:Int))) rb ts en n v∧T1 rb W (W.setCell ⟨rb,3,none⟩ (Zi (n:Int))):=
 ⟨⟨heap_setCell_same W rb 3 _ _ _ h.box,h.tok.same (fun k hk=>heap_setCell_other W ⟨rb,3,none⟩ k _ (by show k≠rb;omega))⟩,T1.set⟩
abbrev fltS (p:Nat × Nat) (e:Nat):List PanicEntry:=[{ v:=.iface 52 (.agg #[Zi (p.1:Int),Zi (p.2:Int),Zi (e:Int)]),recovered:=false }]
def PrP {α:Type} (w:World) (rb:Nat) (en:Nat × Nat) (nest:Nat) (R:PR α) (okv:α→Value→World→Prop) (e:Ending) (w':World):Prop:=match R with
 | .ok x r=>∃v v',e=.returned v∧okv x v w'∧RdB w' rb r en nest v'∧T1 rb w w'
 | .er p x=>e=.panicked (fltS p x)∧T1 rb w w'
end Go.Proofs.YtlfooogmoigpfaaGreatDoor
namespace Go.Proofs.YtlfooogmoigpfaaGreatDoor
def Fine {α:Type} (n:Nat) (R:PR α):Prop:=match R with
 | .ok _ r=>r.length≤n
 | .er _ e=>e≠0
theorem Fine.ne {α:Type} {n:Nat} {R:PR α} (h:Fine n R):R≠.er (0,0) 0:=by
 rintro rfl
 exact h rfl
theorem Fine.bind {α β:Type} {n m:Nat} {a:PR α} {f:α→List Tok→PR β} (h:Fine n a) (hf:∀x r,r.length≤n→Fine m (f x r)):Fine m (a.bind f):=by
 cases a with
 | ok x r=>exact hf x r h
 | er p e=>exact h
theorem Fine.mono {α:Type} {n m:Nat} {R:PR α} (h:Fine n R) (hn:n≤m):Fine m R:=by
 cases R with
 | ok x r=>exact Nat.le_trans h hn
 | er p e=>exact h
theorem tail_lt {ts:List Tok} {s:List UInt8} (h:nxtT ts=s) (hs:s≠[]):ts.tail.length+1=ts.length:=by
 cases ts with
 | nil=>exact absurd h.symm hs
 | cons t r=>rfl
theorem tail_ltK {ts:List Tok} {k:Nat} (h:nxtK ts=k) (hk:k≠0):ts.tail.length+1=ts.length:=by
 cases ts with
 | nil=>exact absurd h.symm hk
 | cons t r=>rfl
theorem must_fine {en:Nat × Nat} {s:List UInt8} {ts:List Tok} {n:Nat} (hn:ts.length≤n):Fine n (pMust en s ts):=by
 unfold pMust
 split
 ·show ts.tail.length≤n
  rw[List.length_tail];omega
 ·exact (by decide:(181:Nat)≠0)
theorem name_fine {en:Nat × Nat} {ts:List Tok} {n:Nat} (hn:ts.length≤n):Fine n (pName en ts):=by
 unfold pName
 split
 ·show ts.tail.length≤n
  rw[List.length_tail];omega
 ·exact (by decide:(181:Nat)≠0)
theorem open_fine {α:Type} {en:Nat × Nat} {nest:Nat} {ts:List Tok} {n:Nat} {inner:Nat→List Tok→PR α} (h:Fine n (inner (nest+1) ts.tail)):Fine n (pOpen en nest ts inner):=by
 unfold pOpen
 split
 ·exact (by decide:(182:Nat)≠0)
 ·exact h
theorem br_fine {α:Type} {en:Nat × Nat} {nest:Nat} {s1 s2:List UInt8} {ts:List Tok} {n:Nat} {inner:Nat→List Tok→PR α} (h:nxtT ts=s1→Fine n (inner (nest+1) ts.tail)):Fine n (pBr en nest s1 s2 ts inner):=by
 unfold pBr
 split
 ·rename_i he
  exact (open_fine (h he)).bind fun x r hr=>(must_fine hr).bind fun _ r2 h2=>h2
 ·exact (by decide:(181:Nat)≠0)
theorem jo_nil (rank:Nat):jointO rank []=none:=by
 unfold jointO
 rw[List.find?_eq_none.2]
 ·rfl
 ·intro x hx
  have h:∀y∈jointL,y.1≠[]:=by decide
  simp[h x hx]
theorem fuel_all (en:Nat × Nat):∀f,(∀nest ts n,ts.length≤n→20 * n+13≤f→Fine n (pWh en f nest ts))∧(∀rank nest ts n,1≤rank→rank≤10→ts.length≤n→20 * n+13≤f+rank→Fine n (pJo en f rank nest ts))∧(∀rank nest x ts n,1≤rank→rank≤9→ts.length≤n→20 * n+1≤f→Fine n (pLo en f rank nest x ts))∧(∀nest ts n,ts.length≤n→20 * n+2≤f→Fine n (pUn en f nest ts))∧(∀nest ts n,ts.length≤n→20 * n+1≤f→Fine n (pPr en f nest ts)):=by
 intro f
 induction f with
 | zero=>exact⟨fun _ _ _ _ h=>by omega,fun _ _ _ _ _ _ _ h=>by omega,fun _ _ _ _ _ _ _ _ h=>by omega,fun _ _ _ _ h=>by omega,fun _ _ _ _ h=>by omega⟩
 | succ f ih=>
  obtain⟨iW,iJ,iL,iU,iP⟩:=ih
  refine⟨?_,?_,?_,?_,?_⟩
  ·intro nest ts n hn hf
   simp only[pWh]
   refine (iJ 1 nest ts n (by omega) (by omega) hn (by omega)).bind fun x r hr=>?_
   split
   ·rename_i he
    have hl:=tail_lt he (by decide)
    refine open_fine ?_
    refine (iW (nest+1) r.tail (n - 1) (by omega) (by omega)).bind fun y r2 h2=>(must_fine h2).bind fun _ r3 h3=>(iW (nest+1) r3 (n - 1) h3 (by omega)).bind fun z r4 h4=>?_
    exact (by omega:r4.length≤n)
   ·exact hr
  ·intro rank nest ts n h1 h10 hn hf
   simp only[pJo]
   split
   ·exact iU nest ts n hn (by omega)
   ·exact (iJ (rank+1) nest ts n (by omega) (by omega) hn (by omega)).bind fun x r hr=>iL rank nest x r n h1 (by omega) hr (by omega)
  ·intro rank nest x ts n h1 h9 hn hf
   simp only[pLo]
   split
   ·exact hn
   ·rename_i k o he
    have hl:ts.tail.length+1=ts.length:=by
     cases ts with
     | nil=>rw[show nxtT []=[] from rfl,jo_nil] at he;cases he
     | cons t r=>rfl
    refine (iJ (rank+1) nest ts.tail (n - 1) (by omega) (by omega) (by omega) (by omega)).bind fun y r hr=>?_
    split
    ·exact (by omega:r.length≤n)
    ·exact (iL rank nest _ r (n - 1) h1 h9 hr (by omega)).mono (by omega)
  ·intro nest ts n hn hf
   simp only[pUn]
   split
   ·rename_i he
    have hl:=tail_lt he (by decide)
    exact open_fine ((iU (nest+1) ts.tail (n - 1) (by omega) (by omega)).bind fun y r hr=>(by omega:r.length≤n))
   ·split
    ·rename_i he
     have hl:=tail_lt he (by decide)
     exact open_fine ((iU (nest+1) ts.tail (n - 1) (by omega) (by omega)).bind fun y r hr=>(by omega:r.length≤n))
    ·exact iP nest ts n hn (by omega)
  ·intro nest ts n hn hf
   have hW:∀s us,nxtT us=s→s≠[]→us.length≤n→∀nest',Fine n (pWh en f nest' us.tail):=fun s us he hs hu nest'=>by
    have hl:=tail_lt he hs
    exact (iW nest' us.tail (n - 1) (by omega) (by omega)).mono (by omega)
   have ht:ts.tail.length≤n:=by rw[List.length_tail];omega
   have htt:ts.tail.tail.length≤n:=by rw[List.length_tail];omega
   simp only[pPr]
   split
   ·exact ht
   ·split
    ·exact ht
    ·split
     ·exact br_fine fun he=>hW _ ts he (by decide) hn _
     ·split
      ·split
       ·exact (br_fine fun he=>hW _ ts.tail he (by decide) ht _).bind fun x r hr=>hr
       ·exact (br_fine fun he=>name_fine htt).bind fun x r hr=>hr
      ·split
       ·exact (br_fine fun he=>name_fine htt).bind fun x r hr=>hr
       ·refine (must_fine hn).bind fun _ r hr=>?_
        refine Fine.bind (n:=n) ?_ fun x r2 h2=>h2
        refine br_fine fun he=>?_
        have hl:=tail_lt he (by decide)
        refine (iW (nest+1) r.tail (n - 1) (by omega) (by omega)).bind fun y r2 h2=>(must_fine h2).bind fun _ r3 h3=>(iW (nest+1) r3 (n - 1) h3 (by omega)).bind fun z r4 h4=>?_
        exact (by omega:r4.length≤n)
theorem pW_ne (en:Nat × Nat) (nest:Nat) (ts:List Tok):pW en nest ts≠.er (0,0) 0:=((fuel_all en (20 * ts.length+20)).1 nest ts ts.length (Nat.le_refl _) (by omega)).ne
end Go.Proofs.YtlfooogmoigpfaaGreatDoor
