import Derived.Test.YtlfooogmoigpfaaGreatDoorQam
import Derived.Test.YtlfooogmoigpfaaGreatDoorQaa
set_option maxRecDepth 100000
set_option maxHeartbeats 8000000
namespace Go.Proofs.YtlfooogmoigpfaaGreatDoor
open Go.RowKit Go.Sort Go.Shelf
theorem djo2_0 (w:World) (u:ByteArray) (h0:(u.toList == [124,124])=true):Calls Tryz.prog 94 #[Zi 2,.string u] w fun e w'=>e=.returned (.tuple #[Zi 9,Zi 0])∧w'=w:=by
 go_enter Tryz.func94,Tryz.ntmps94
 go_wp2
 exact bodyPost_ret (v:=.tuple #[Zi 9,Zi 0]) (by simp[results,Tryz.results94,go_sem]) rfl ⟨rfl,rfl⟩
theorem djo2_1 (w:World) (u:ByteArray) (h0:(u.toList == [124,124])=false):Calls Tryz.prog 94 #[Zi 2,.string u] w fun e w'=>e=.returned (.tuple #[Zi 0,Zi 0])∧w'=w:=by
 go_enter Tryz.func94,Tryz.ntmps94
 go_wp2
 exact bodyPost_ret (v:=.tuple #[Zi 0,Zi 0]) (by simp[results,Tryz.results94,go_sem]) rfl ⟨rfl,rfl⟩
theorem djo3_0 (w:World) (u:ByteArray) (h0:(u.toList == [38,38])=true):Calls Tryz.prog 94 #[Zi 3,.string u] w fun e w'=>e=.returned (.tuple #[Zi 8,Zi 0])∧w'=w:=by
 go_enter Tryz.func94,Tryz.ntmps94
 go_wp2
 exact bodyPost_ret (v:=.tuple #[Zi 8,Zi 0]) (by simp[results,Tryz.results94,go_sem]) rfl ⟨rfl,rfl⟩
theorem djo3_1 (w:World) (u:ByteArray) (h0:(u.toList == [38,38])=false):Calls Tryz.prog 94 #[Zi 3,.string u] w fun e w'=>e=.returned (.tuple #[Zi 0,Zi 0])∧w'=w:=by
 go_enter Tryz.func94,Tryz.ntmps94
 go_wp2
 exact bodyPost_ret (v:=.tuple #[Zi 0,Zi 0]) (by simp[results,Tryz.results94,go_sem]) rfl ⟨rfl,rfl⟩
theorem djo4_0 (w:World) (u:ByteArray) (h0:(u.toList == [124])=true):Calls Tryz.prog 94 #[Zi 4,.string u] w fun e w'=>e=.returned (.tuple #[Zi 7,Zi 16])∧w'=w:=by
 go_enter Tryz.func94,Tryz.ntmps94
 go_wp2
 exact bodyPost_ret (v:=.tuple #[Zi 7,Zi 16]) (by simp[results,Tryz.results94,go_sem]) rfl ⟨rfl,rfl⟩
theorem djo4_1 (w:World) (u:ByteArray) (h0:(u.toList == [124])=false):Calls Tryz.prog 94 #[Zi 4,.string u] w fun e w'=>e=.returned (.tuple #[Zi 0,Zi 0])∧w'=w:=by
 go_enter Tryz.func94,Tryz.ntmps94
 go_wp2
 exact bodyPost_ret (v:=.tuple #[Zi 0,Zi 0]) (by simp[results,Tryz.results94,go_sem]) rfl ⟨rfl,rfl⟩
theorem djo5_0 (w:World) (u:ByteArray) (h0:(u.toList == [94])=true):Calls Tryz.prog 94 #[Zi 5,.string u] w fun e w'=>e=.returned (.tuple #[Zi 7,Zi 17])∧w'=w:=by
 go_enter Tryz.func94,Tryz.ntmps94
 go_wp2
 exact bodyPost_ret (v:=.tuple #[Zi 7,Zi 17]) (by simp[results,Tryz.results94,go_sem]) rfl ⟨rfl,rfl⟩
theorem djo5_1 (w:World) (u:ByteArray) (h0:(u.toList == [94])=false):Calls Tryz.prog 94 #[Zi 5,.string u] w fun e w'=>e=.returned (.tuple #[Zi 0,Zi 0])∧w'=w:=by
 go_enter Tryz.func94,Tryz.ntmps94
 go_wp2
 exact bodyPost_ret (v:=.tuple #[Zi 0,Zi 0]) (by simp[results,Tryz.results94,go_sem]) rfl ⟨rfl,rfl⟩
theorem djo6_0 (w:World) (u:ByteArray) (h0:(u.toList == [38])=true):Calls Tryz.prog 94 #[Zi 6,.string u] w fun e w'=>e=.returned (.tuple #[Zi 7,Zi 15])∧w'=w:=by
 go_enter Tryz.func94,Tryz.ntmps94
 go_wp2
 exact bodyPost_ret (v:=.tuple #[Zi 7,Zi 15]) (by simp[results,Tryz.results94,go_sem]) rfl ⟨rfl,rfl⟩
theorem djo6_1 (w:World) (u:ByteArray) (h0:(u.toList == [38])=false):Calls Tryz.prog 94 #[Zi 6,.string u] w fun e w'=>e=.returned (.tuple #[Zi 0,Zi 0])∧w'=w:=by
 go_enter Tryz.func94,Tryz.ntmps94
 go_wp2
 exact bodyPost_ret (v:=.tuple #[Zi 0,Zi 0]) (by simp[results,Tryz.results94,go_sem]) rfl ⟨rfl,rfl⟩
theorem dcmp0 (w:World) (u:ByteArray) (h0:(u.toList == [61,61])=true):Calls Tryz.prog 117 #[.string u] w fun e w'=>e=.returned (Zi 22)∧w'=w:=by
 go_enter Tryz.func117,Tryz.ntmps117
 go_wp2
 exact bodyPost_ret (v:=Zi 22) (by simp[results,Tryz.results117,go_sem]) rfl ⟨rfl,rfl⟩
theorem djo7_0 (w:World) (u:ByteArray) (h0:(u.toList == [61,61])=true):Calls Tryz.prog 94 #[Zi 7,.string u] w fun e w'=>e=.returned (.tuple #[Zi 7,Zi 22])∧w'=w:=by
 have HC:=Zh (dcmp0 w u h0)
 clear h0
 go_enter Tryz.func94,Tryz.ntmps94
 go_wp2_with fail
 refine HC.out.mono ?_
 clear HC
 rintro e w1 ⟨rfl,rfl⟩
 go_wp2
 exact bodyPost_ret (v:=.tuple #[Zi 7,Zi 22]) (by simp[results,Tryz.results94,go_sem]) rfl ⟨rfl,rfl⟩
theorem dcmp1 (w:World) (u:ByteArray) (h0:(u.toList == [61,61])=false) (h1:(u.toList == [33,61])=true):Calls Tryz.prog 117 #[.string u] w fun e w'=>e=.returned (Zi 23)∧w'=w:=by
 go_enter Tryz.func117,Tryz.ntmps117
 go_wp2
 exact bodyPost_ret (v:=Zi 23) (by simp[results,Tryz.results117,go_sem]) rfl ⟨rfl,rfl⟩
theorem djo7_1 (w:World) (u:ByteArray) (h0:(u.toList == [61,61])=false) (h1:(u.toList == [33,61])=true):Calls Tryz.prog 94 #[Zi 7,.string u] w fun e w'=>e=.returned (.tuple #[Zi 7,Zi 23])∧w'=w:=by
 have HC:=Zh (dcmp1 w u h0 h1)
 clear h0 h1
 go_enter Tryz.func94,Tryz.ntmps94
 go_wp2_with fail
 refine HC.out.mono ?_
 clear HC
 rintro e w1 ⟨rfl,rfl⟩
 go_wp2
 exact bodyPost_ret (v:=.tuple #[Zi 7,Zi 23]) (by simp[results,Tryz.results94,go_sem]) rfl ⟨rfl,rfl⟩
theorem dcmp2 (w:World) (u:ByteArray) (h0:(u.toList == [61,61])=false) (h1:(u.toList == [33,61])=false) (h2:(u.toList == [60])=true):Calls Tryz.prog 117 #[.string u] w fun e w'=>e=.returned (Zi 24)∧w'=w:=by
 go_enter Tryz.func117,Tryz.ntmps117
 go_wp2
 exact bodyPost_ret (v:=Zi 24) (by simp[results,Tryz.results117,go_sem]) rfl ⟨rfl,rfl⟩
theorem djo7_2 (w:World) (u:ByteArray) (h0:(u.toList == [61,61])=false) (h1:(u.toList == [33,61])=false) (h2:(u.toList == [60])=true):Calls Tryz.prog 94 #[Zi 7,.string u] w fun e w'=>e=.returned (.tuple #[Zi 7,Zi 24])∧w'=w:=by
 have HC:=Zh (dcmp2 w u h0 h1 h2)
 clear h0 h1 h2
 go_enter Tryz.func94,Tryz.ntmps94
 go_wp2_with fail
 refine HC.out.mono ?_
 clear HC
 rintro e w1 ⟨rfl,rfl⟩
 go_wp2
 exact bodyPost_ret (v:=.tuple #[Zi 7,Zi 24]) (by simp[results,Tryz.results94,go_sem]) rfl ⟨rfl,rfl⟩
theorem dcmp3 (w:World) (u:ByteArray) (h0:(u.toList == [61,61])=false) (h1:(u.toList == [33,61])=false) (h2:(u.toList == [60])=false) (h3:(u.toList == [60,61])=true):Calls Tryz.prog 117 #[.string u] w fun e w'=>e=.returned (Zi 25)∧w'=w:=by
 go_enter Tryz.func117,Tryz.ntmps117
 go_wp2
 exact bodyPost_ret (v:=Zi 25) (by simp[results,Tryz.results117,go_sem]) rfl ⟨rfl,rfl⟩
theorem djo7_3 (w:World) (u:ByteArray) (h0:(u.toList == [61,61])=false) (h1:(u.toList == [33,61])=false) (h2:(u.toList == [60])=false) (h3:(u.toList == [60,61])=true):Calls Tryz.prog 94 #[Zi 7,.string u] w fun e w'=>e=.returned (.tuple #[Zi 7,Zi 25])∧w'=w:=by
 have HC:=Zh (dcmp3 w u h0 h1 h2 h3)
 clear h0 h1 h2 h3
 go_enter Tryz.func94,Tryz.ntmps94
 go_wp2_with fail
 refine HC.out.mono ?_
 clear HC
 rintro e w1 ⟨rfl,rfl⟩
 go_wp2
 exact bodyPost_ret (v:=.tuple #[Zi 7,Zi 25]) (by simp[results,Tryz.results94,go_sem]) rfl ⟨rfl,rfl⟩
theorem dcmp4 (w:World) (u:ByteArray) (h0:(u.toList == [61,61])=false) (h1:(u.toList == [33,61])=false) (h2:(u.toList == [60])=false) (h3:(u.toList == [60,61])=false) (h4:(u.toList == [62])=true):Calls Tryz.prog 117 #[.string u] w fun e w'=>e=.returned (Zi 26)∧w'=w:=by
 go_enter Tryz.func117,Tryz.ntmps117
 go_wp2
 exact bodyPost_ret (v:=Zi 26) (by simp[results,Tryz.results117,go_sem]) rfl ⟨rfl,rfl⟩
theorem djo7_4 (w:World) (u:ByteArray) (h0:(u.toList == [61,61])=false) (h1:(u.toList == [33,61])=false) (h2:(u.toList == [60])=false) (h3:(u.toList == [60,61])=false) (h4:(u.toList == [62])=true):Calls Tryz.prog 94 #[Zi 7,.string u] w fun e w'=>e=.returned (.tuple #[Zi 7,Zi 26])∧w'=w:=by
 have HC:=Zh (dcmp4 w u h0 h1 h2 h3 h4)
 clear h0 h1 h2 h3 h4
 go_enter Tryz.func94,Tryz.ntmps94
 go_wp2_with fail
 refine HC.out.mono ?_
 clear HC
 rintro e w1 ⟨rfl,rfl⟩
 go_wp2
 exact bodyPost_ret (v:=.tuple #[Zi 7,Zi 26]) (by simp[results,Tryz.results94,go_sem]) rfl ⟨rfl,rfl⟩
theorem dcmp5 (w:World) (u:ByteArray) (h0:(u.toList == [61,61])=false) (h1:(u.toList == [33,61])=false) (h2:(u.toList == [60])=false) (h3:(u.toList == [60,61])=false) (h4:(u.toList == [62])=false) (h5:(u.toList == [62,61])=true):Calls Tryz.prog 117 #[.string u] w fun e w'=>e=.returned (Zi 27)∧w'=w:=by
 go_enter Tryz.func117,Tryz.ntmps117
 go_wp2
 exact bodyPost_ret (v:=Zi 27) (by simp[results,Tryz.results117,go_sem]) rfl ⟨rfl,rfl⟩
theorem djo7_5 (w:World) (u:ByteArray) (h0:(u.toList == [61,61])=false) (h1:(u.toList == [33,61])=false) (h2:(u.toList == [60])=false) (h3:(u.toList == [60,61])=false) (h4:(u.toList == [62])=false) (h5:(u.toList == [62,61])=true):Calls Tryz.prog 94 #[Zi 7,.string u] w fun e w'=>e=.returned (.tuple #[Zi 7,Zi 27])∧w'=w:=by
 have HC:=Zh (dcmp5 w u h0 h1 h2 h3 h4 h5)
 clear h0 h1 h2 h3 h4 h5
 go_enter Tryz.func94,Tryz.ntmps94
 go_wp2_with fail
 refine HC.out.mono ?_
 clear HC
 rintro e w1 ⟨rfl,rfl⟩
 go_wp2
 exact bodyPost_ret (v:=.tuple #[Zi 7,Zi 27]) (by simp[results,Tryz.results94,go_sem]) rfl ⟨rfl,rfl⟩
theorem dcmp6 (w:World) (u:ByteArray) (h0:(u.toList == [61,61])=false) (h1:(u.toList == [33,61])=false) (h2:(u.toList == [60])=false) (h3:(u.toList == [60,61])=false) (h4:(u.toList == [62])=false) (h5:(u.toList == [62,61])=false):Calls Tryz.prog 117 #[.string u] w fun e w'=>e=.returned (Zi 0)∧w'=w:=by
 go_enter Tryz.func117,Tryz.ntmps117
 go_wp2
 exact bodyPost_ret (v:=Zi 0) (by simp[results,Tryz.results117,go_sem]) rfl ⟨rfl,rfl⟩
theorem djo7_6 (w:World) (u:ByteArray) (h0:(u.toList == [61,61])=false) (h1:(u.toList == [33,61])=false) (h2:(u.toList == [60])=false) (h3:(u.toList == [60,61])=false) (h4:(u.toList == [62])=false) (h5:(u.toList == [62,61])=false):Calls Tryz.prog 94 #[Zi 7,.string u] w fun e w'=>e=.returned (.tuple #[Zi 0,Zi 0])∧w'=w:=by
 have HC:=Zh (dcmp6 w u h0 h1 h2 h3 h4 h5)
 clear h0 h1 h2 h3 h4 h5
 go_enter Tryz.func94,Tryz.ntmps94
 go_wp2_with fail
 refine HC.out.mono ?_
 clear HC
 rintro e w1 ⟨rfl,rfl⟩
 go_wp2
 exact bodyPost_ret (v:=.tuple #[Zi 0,Zi 0]) (by simp[results,Tryz.results94,go_sem]) rfl ⟨rfl,rfl⟩
theorem djo8_0 (w:World) (u:ByteArray) (h0:(u.toList == [60,60])=true):Calls Tryz.prog 94 #[Zi 8,.string u] w fun e w'=>e=.returned (.tuple #[Zi 7,Zi 18])∧w'=w:=by
 go_enter Tryz.func94,Tryz.ntmps94
 go_wp2
 exact bodyPost_ret (v:=.tuple #[Zi 7,Zi 18]) (by simp[results,Tryz.results94,go_sem]) rfl ⟨rfl,rfl⟩
theorem djo8_1 (w:World) (u:ByteArray) (h0:(u.toList == [60,60])=false) (h1:(u.toList == [62,62])=true):Calls Tryz.prog 94 #[Zi 8,.string u] w fun e w'=>e=.returned (.tuple #[Zi 7,Zi 19])∧w'=w:=by
 go_enter Tryz.func94,Tryz.ntmps94
 go_wp2
 exact bodyPost_ret (v:=.tuple #[Zi 7,Zi 19]) (by simp[results,Tryz.results94,go_sem]) rfl ⟨rfl,rfl⟩
theorem djo8_2 (w:World) (u:ByteArray) (h0:(u.toList == [60,60])=false) (h1:(u.toList == [62,62])=false):Calls Tryz.prog 94 #[Zi 8,.string u] w fun e w'=>e=.returned (.tuple #[Zi 0,Zi 0])∧w'=w:=by
 go_enter Tryz.func94,Tryz.ntmps94
 go_wp2
 exact bodyPost_ret (v:=.tuple #[Zi 0,Zi 0]) (by simp[results,Tryz.results94,go_sem]) rfl ⟨rfl,rfl⟩
theorem djo9_0 (w:World) (u:ByteArray) (h0:(u.toList == [43])=true):Calls Tryz.prog 94 #[Zi 9,.string u] w fun e w'=>e=.returned (.tuple #[Zi 7,Zi 10])∧w'=w:=by
 go_enter Tryz.func94,Tryz.ntmps94
 go_wp2
 exact bodyPost_ret (v:=.tuple #[Zi 7,Zi 10]) (by simp[results,Tryz.results94,go_sem]) rfl ⟨rfl,rfl⟩
theorem djo9_1 (w:World) (u:ByteArray) (h0:(u.toList == [43])=false) (h1:(u.toList == [45])=true):Calls Tryz.prog 94 #[Zi 9,.string u] w fun e w'=>e=.returned (.tuple #[Zi 7,Zi 11])∧w'=w:=by
 go_enter Tryz.func94,Tryz.ntmps94
 go_wp2
 exact bodyPost_ret (v:=.tuple #[Zi 7,Zi 11]) (by simp[results,Tryz.results94,go_sem]) rfl ⟨rfl,rfl⟩
theorem djo9_2 (w:World) (u:ByteArray) (h0:(u.toList == [43])=false) (h1:(u.toList == [45])=false):Calls Tryz.prog 94 #[Zi 9,.string u] w fun e w'=>e=.returned (.tuple #[Zi 0,Zi 0])∧w'=w:=by
 go_enter Tryz.func94,Tryz.ntmps94
 go_wp2
 exact bodyPost_ret (v:=.tuple #[Zi 0,Zi 0]) (by simp[results,Tryz.results94,go_sem]) rfl ⟨rfl,rfl⟩
theorem djo10_0 (w:World) (u:ByteArray) (h0:(u.toList == [42])=true):Calls Tryz.prog 94 #[Zi 10,.string u] w fun e w'=>e=.returned (.tuple #[Zi 7,Zi 12])∧w'=w:=by
 go_enter Tryz.func94,Tryz.ntmps94
 go_wp2
 exact bodyPost_ret (v:=.tuple #[Zi 7,Zi 12]) (by simp[results,Tryz.results94,go_sem]) rfl ⟨rfl,rfl⟩
theorem djo10_1 (w:World) (u:ByteArray) (h0:(u.toList == [42])=false) (h1:(u.toList == [47])=true):Calls Tryz.prog 94 #[Zi 10,.string u] w fun e w'=>e=.returned (.tuple #[Zi 7,Zi 13])∧w'=w:=by
 go_enter Tryz.func94,Tryz.ntmps94
 go_wp2
 exact bodyPost_ret (v:=.tuple #[Zi 7,Zi 13]) (by simp[results,Tryz.results94,go_sem]) rfl ⟨rfl,rfl⟩
theorem djo10_2 (w:World) (u:ByteArray) (h0:(u.toList == [42])=false) (h1:(u.toList == [47])=false) (h2:(u.toList == [37])=true):Calls Tryz.prog 94 #[Zi 10,.string u] w fun e w'=>e=.returned (.tuple #[Zi 7,Zi 14])∧w'=w:=by
 go_enter Tryz.func94,Tryz.ntmps94
 go_wp2
 exact bodyPost_ret (v:=.tuple #[Zi 7,Zi 14]) (by simp[results,Tryz.results94,go_sem]) rfl ⟨rfl,rfl⟩
theorem djo10_3 (w:World) (u:ByteArray) (h0:(u.toList == [42])=false) (h1:(u.toList == [47])=false) (h2:(u.toList == [37])=false):Calls Tryz.prog 94 #[Zi 10,.string u] w fun e w'=>e=.returned (.tuple #[Zi 0,Zi 0])∧w'=w:=by
 go_enter Tryz.func94,Tryz.ntmps94
 go_wp2
 exact bodyPost_ret (v:=.tuple #[Zi 0,Zi 0]) (by simp[results,Tryz.results94,go_sem]) rfl ⟨rfl,rfl⟩
def joD (rank:Nat) (t:List UInt8):Nat × Nat:=(jointO (rank - 1) t).getD (0,0)
theorem djoins_any (w:World) (rank:Nat) (h2:2≤rank) (h10:rank≤10) (t:List UInt8):Calls Tryz.prog 94 #[Zi (rank:Int),.string (S t)] w fun e w'=>e=.returned (.tuple #[Zi ((joD rank t).1:Int),Zi ((joD rank t).2:Int)])∧w'=w:=by
 have ft:∀l:List UInt8,t=l→((S t).toList == l)=true:=fun l h=>by rw[S_toList,h];simp
 have ff:∀l:List UInt8,¬t=l→((S t).toList == l)=false:=fun l h=>by rw[S_toList];simpa using h
 obtain rfl | rfl | rfl | rfl | rfl | rfl | rfl | rfl | rfl:rank=2∨rank=3∨rank=4∨rank=5∨rank=6∨rank=7∨rank=8∨rank=9∨rank=10:=by omega
 ·by_cases g0:t=[124,124]
  ·have hn:joD 2 t=(9,0):=by rw[g0];rfl
   rw[hn]
   exact djo2_0 w (S t) (ft _ g0)
  ·have hn:joD 2 t=(0,0):=by
    have k0:¬[124,124]=t:=fun e=>g0 e.symm
    simp[joD,jointO,jointL,k0]
   rw[hn]
   exact djo2_1 w (S t) (ff _ g0)
 ·by_cases g0:t=[38,38]
  ·have hn:joD 3 t=(8,0):=by rw[g0];rfl
   rw[hn]
   exact djo3_0 w (S t) (ft _ g0)
  ·have hn:joD 3 t=(0,0):=by
    have k0:¬[38,38]=t:=fun e=>g0 e.symm
    simp[joD,jointO,jointL,k0]
   rw[hn]
   exact djo3_1 w (S t) (ff _ g0)
 ·by_cases g0:t=[124]
  ·have hn:joD 4 t=(7,16):=by rw[g0];rfl
   rw[hn]
   exact djo4_0 w (S t) (ft _ g0)
  ·have hn:joD 4 t=(0,0):=by
    have k0:¬[124]=t:=fun e=>g0 e.symm
    simp[joD,jointO,jointL,k0]
   rw[hn]
   exact djo4_1 w (S t) (ff _ g0)
 ·by_cases g0:t=[94]
  ·have hn:joD 5 t=(7,17):=by rw[g0];rfl
   rw[hn]
   exact djo5_0 w (S t) (ft _ g0)
  ·have hn:joD 5 t=(0,0):=by
    have k0:¬[94]=t:=fun e=>g0 e.symm
    simp[joD,jointO,jointL,k0]
   rw[hn]
   exact djo5_1 w (S t) (ff _ g0)
 ·by_cases g0:t=[38]
  ·have hn:joD 6 t=(7,15):=by rw[g0];rfl
   rw[hn]
   exact djo6_0 w (S t) (ft _ g0)
  ·have hn:joD 6 t=(0,0):=by
    have k0:¬[38]=t:=fun e=>g0 e.symm
    simp[joD,jointO,jointL,k0]
   rw[hn]
   exact djo6_1 w (S t) (ff _ g0)
 ·by_cases g0:t=[61,61]
  ·have hn:joD 7 t=(7,22):=by rw[g0];rfl
   rw[hn]
   exact djo7_0 w (S t) (ft _ g0)
  ·by_cases g1:t=[33,61]
   ·have hn:joD 7 t=(7,23):=by rw[g1];rfl
    rw[hn]
    exact djo7_1 w (S t) (ff _ g0) (ft _ g1)
   ·by_cases g2:t=[60]
    ·have hn:joD 7 t=(7,24):=by rw[g2];rfl
     rw[hn]
     exact djo7_2 w (S t) (ff _ g0) (ff _ g1) (ft _ g2)
    ·by_cases g3:t=[60,61]
     ·have hn:joD 7 t=(7,25):=by rw[g3];rfl
      rw[hn]
      exact djo7_3 w (S t) (ff _ g0) (ff _ g1) (ff _ g2) (ft _ g3)
     ·by_cases g4:t=[62]
      ·have hn:joD 7 t=(7,26):=by rw[g4];rfl
       rw[hn]
       exact djo7_4 w (S t) (ff _ g0) (ff _ g1) (ff _ g2) (ff _ g3) (ft _ g4)
      ·by_cases g5:t=[62,61]
       ·have hn:joD 7 t=(7,27):=by rw[g5];rfl
        rw[hn]
        exact djo7_5 w (S t) (ff _ g0) (ff _ g1) (ff _ g2) (ff _ g3) (ff _ g4) (ft _ g5)
       ·have hn:joD 7 t=(0,0):=by
         have k0:¬[61,61]=t:=fun e=>g0 e.symm
         have k1:¬[33,61]=t:=fun e=>g1 e.symm
         have k2:¬[60]=t:=fun e=>g2 e.symm
         have k3:¬[60,61]=t:=fun e=>g3 e.symm
         have k4:¬[62]=t:=fun e=>g4 e.symm
         have k5:¬[62,61]=t:=fun e=>g5 e.symm
         simp[joD,jointO,jointL,k0,k1,k2,k3,k4,k5]
        rw[hn]
        exact djo7_6 w (S t) (ff _ g0) (ff _ g1) (ff _ g2) (ff _ g3) (ff _ g4) (ff _ g5)
 ·by_cases g0:t=[60,60]
  ·have hn:joD 8 t=(7,18):=by rw[g0];rfl
   rw[hn]
   exact djo8_0 w (S t) (ft _ g0)
  ·by_cases g1:t=[62,62]
   ·have hn:joD 8 t=(7,19):=by rw[g1];rfl
    rw[hn]
    exact djo8_1 w (S t) (ff _ g0) (ft _ g1)
   ·have hn:joD 8 t=(0,0):=by
     have k0:¬[60,60]=t:=fun e=>g0 e.symm
     have k1:¬[62,62]=t:=fun e=>g1 e.symm
     simp[joD,jointO,jointL,k0,k1]
    rw[hn]
    exact djo8_2 w (S t) (ff _ g0) (ff _ g1)
 ·by_cases g0:t=[43]
  ·have hn:joD 9 t=(7,10):=by rw[g0];rfl
   rw[hn]
   exact djo9_0 w (S t) (ft _ g0)
  ·by_cases g1:t=[45]
   ·have hn:joD 9 t=(7,11):=by rw[g1];rfl
    rw[hn]
    exact djo9_1 w (S t) (ff _ g0) (ft _ g1)
   ·have hn:joD 9 t=(0,0):=by
     have k0:¬[43]=t:=fun e=>g0 e.symm
     have k1:¬[45]=t:=fun e=>g1 e.symm
     simp[joD,jointO,jointL,k0,k1]
    rw[hn]
    exact djo9_2 w (S t) (ff _ g0) (ff _ g1)
 ·by_cases g0:t=[42]
  ·have hn:joD 10 t=(7,12):=by rw[g0];rfl
   rw[hn]
   exact djo10_0 w (S t) (ft _ g0)
  ·by_cases g1:t=[47]
   ·have hn:joD 10 t=(7,13):=by rw[g1];rfl
    rw[hn]
    exact djo10_1 w (S t) (ff _ g0) (ft _ g1)
   ·by_cases g2:t=[37]
    ·have hn:joD 10 t=(7,14):=by rw[g2];rfl
     rw[hn]
     exact djo10_2 w (S t) (ff _ g0) (ff _ g1) (ft _ g2)
    ·have hn:joD 10 t=(0,0):=by
      have k0:¬[42]=t:=fun e=>g0 e.symm
      have k1:¬[47]=t:=fun e=>g1 e.symm
      have k2:¬[37]=t:=fun e=>g2 e.symm
      simp[joD,jointO,jointL,k0,k1,k2]
     rw[hn]
     exact djo10_3 w (S t) (ff _ g0) (ff _ g1) (ff _ g2)
theorem dtwoMax_any {pb:Nat} {al:Value} {L:List Tok} {en:Nat × Nat} {f:Nat} (hL:TksOk L) (hlen:L.length≤70000) (hW:DCw pb al L en f) (w:World) (ts:List Tok) (nest pl pc:Nat) (hds:DS w pb al L en nest (.ok () ts:PR Unit)) (hne:((pTw en f nest ts).bind fun xy r5=>.ok (.mk 7 29 0 [] [xy.1,xy.2] (pl,pc)) r5:PR Ex)≠.er (0,0) 0):Calls Tryz.prog 116 #[Zp pb,.string ⟨#[109,97,120]⟩,.agg #[Zi (pl:Int),Zi (pc:Int)]] w (DP A7 w pb al L en nest ((pTw en f nest ts).bind fun xy r5=>.ok (.mk 7 29 0 [] [xy.1,xy.2] (pl,pc)) r5) (okE (New noB w.heap.size))):=by
 have hn:nest≤200:=hds.1
 obtain⟨s1,hs1⟩:=nm (pOp en nest [40] ts:PR Unit)
 obtain⟨s2,hs2⟩:=nm (s1.bind fun _ t=>pWh en f (nest+1) t:PR Ex)
 obtain⟨s3,hs3⟩:=nm (s2.bind fun _ t=>pMust en [44] t:PR Unit)
 obtain⟨s4,hs4⟩:=nm (s3.bind fun _ t=>pWh en f (nest+1) t:PR Ex)
 obtain⟨s5,hs5⟩:=nm (s4.bind fun _ t=>pMust en [41] t:PR Unit)
 obtain⟨G,hG⟩:=nm ((pTw en f nest ts).bind fun xy r5=>.ok (.mk 7 29 0 [] [xy.1,xy.2] (pl,pc)) r5:PR Ex)
 rw[← hG] at hne ⊢
 have key:Like s5 G∧(∀X r,G=.ok X r→∃x rx y ry,s2=.ok x rx∧s4=.ok y ry∧X=.mk 7 29 0 [] [x,y] (pl,pc))∧(∀p e,s2=.er p e→G=.er p e)∧(∀p e,s4=.er p e→G=.er p e):=by
  have h:=like2 (pOp en nest [40] ts) (fun t=>pWh en f (nest+1) t) (fun t=>pMust en [44] t) (fun t=>pWh en f (nest+1) t) (fun t=>pMust en [41] t) (fun x y=>Ex.mk 7 29 0 [] [x,y] (pl,pc))
  have e:G=(pOp en nest [40] ts).bind fun _ t=>(pWh en f (nest+1) t).bind fun x t=>(pMust en [44] t).bind fun _ t=>(pWh en f (nest+1) t).bind fun y t=>(pMust en [41] t).bind fun _ t=>.ok (Ex.mk 7 29 0 [] [x,y] (pl,pc)) t:=by
   rw[hG]
   unfold pTw
   rw[pBr_op]
   simp only[PR.bind_assoc,PR.bind_ok]
  rw[← e,← hs1,← hs2,← hs3,← hs4,← hs5] at h
  exact h
 have hne2:s2≠.er (0,0) 0:=fun h=>hne (key.2.2.1 _ _ h)
 have hne4:s4≠.er (0,0) 0:=fun h=>hne (key.2.2.2 _ _ h)
 clear hne hG
 obtain⟨ua,hua⟩:=nm (w.alloc (.cells #[Zi (pl:Int),Zi (pc:Int)] 43))
 obtain⟨u0,hu0⟩:=nm (ua.alloc (.cells #[Zi 0,Zi 0,Zi 0,Ze,Zn,Zi 0,Zi 0] 66))
 have sa:ua.heap.size=w.heap.size+1:=by rw[hua];simp
 have hba:Below w.heap.size w ua:=by rw[hua];exact bel_al _ _
 have hb1:Below ua.heap.size ua u0:=by rw[hu0];exact bel_al _ _
 have hb0:Below w.heap.size w u0:=hba.trans (hb1.mono hba.size)
 have HQ:=Zh ((DQ.start hds).bel hb0)
 have HA:Hid (RowP u0 w.heap.size (Zi (pl:Int)) (Zi (pc:Int))):=Zh (RowP.kept (by rw[hua];exact heap_alloc_new _ _ rfl) hb1)
 have HR:Hid (Row7 u0 (w.heap.size+1) (Zi 0) (Zi 0) (Zi 0) (Ze) (Zn) (Zi 0) (Zi 0)):=Zh (by rw[hu0,← sa];exact heap_alloc_new _ _ rfl)
 have HC:Hid (pb < w.heap.size∧w.heap.size < w.heap.size+1∧w.heap.size+1 < u0.heap.size):=Zh ⟨HQ.out.lt,by omega,blk_lt HR.out⟩
 clear hb0 hb1 hba sa
 clear hds
 go_enter Tryz.func116,Tryz.ntmps116
 go_upto_region 1 with fail
 rw[← hua,← hu0]
 clear hua hu0
 go_wp2_with fail
 refine (show Calls Tryz.prog 58 #[Zp pb,.string ⟨#[40]⟩] u0 (fun e w'=>e=.returned (.tuple #[])∧DS w' pb al L en (nest+1) s1∧T1 pb u0 w') from by rw[hs1];exact dopens_any u0 pb al L en nest (.ok () ts) [40] hL hlen (by omega) (by decide) HQ.out.ds).mono ?_
 rintro e u1 ⟨rfl,hds,ht⟩
 replace HA:=Zh (HA.out.t1 ht (by have:=HC.out;omega))
 replace HR:=Zh (HR.out.t1 ht (by have:=HC.out;omega))
 replace HQ:=Zh (HQ.out.call ht hds)
 replace HC:Hid ((pb < w.heap.size∧w.heap.size+1≤w.heap.size+1)∧w.heap.size+1+1≤u1.heap.size):=Zh (by have h1:=HC.out;have h2:=ht.size;omega)
 clear ht hds
 obtain⟨n1,hn1⟩:=nm u1.heap.size
 replace HC:=Zh (cM HC.out hn1)
 go_wp2_with fail
 refine (show Calls Tryz.prog 57 #[Zp pb,Zi 1] u1 (DP A7 u1 pb al L en (nest+1) s2 (okE (New noB u1.heap.size))) from by rw[hs2];exact hW u1 s1 (nest+1) HQ.out.ds (by rw[← hs2];exact hne2)).mono ?_
 rintro e u2 ⟨_,rfl,⟨xk,xo,xn,xl,xm,xs,xa,xq,xc,rfl⟩,hds,ht,hv⟩
 replace HA:=Zh (HA.out.t1 ht (by have:=HC.out;omega))
 replace HR:=Zh (HR.out.t1 ht (by have:=HC.out;omega))
 replace HQ:=Zh (HQ.out.call ht hds)
 replace HC:=Zh (cU HC.out ht.size)
 clear ht hds
 obtain⟨u3,hu3⟩:=nm (u2.alloc (.cells #[Zi xk,Zi xo,Zi xn,.string xs,.slice xa xq xc,Zi xl,Zi xm] 66))
 obtain⟨BX,hBX⟩:=nm u2.heap.size
 have hb:Below u2.heap.size u2 u3:=by rw[hu3];exact bel_al _ _
 have HX:Hid (Row7 u3 BX (Zi xk) (Zi xo) (Zi xn) (.string xs) (.slice xa xq xc) (Zi xl) (Zi xm)):=Zh (by rw[hu3,hBX];exact heap_alloc_new _ _ rfl)
 have HVx:Hid (OV okE (fun k=>n1≤k∧k < BX) s2 (.agg #[Zi xk,Zi xo,Zi xn,.string xs,.slice xa xq xc,Zi xl,Zi xm]) u3):=Zh (OV.res hv okE_f okE_lt' hb (fun k h1 h2=>⟨by omega,by omega⟩))
 clear hv
 have hc0:=HC.out
 replace HA:=Zh (HA.out.kept hb)
 replace HR:=Zh (HR.out.kept hb)
 replace HQ:=Zh (HQ.out.bel hb)
 replace HC:=Zh (cA HC.out hBX (blk_lt HX.out))
 clear hb hc0
 go_upto_region 3 with fail
 rw[← hu3,← hBX]
 clear hu3 hBX
 clear hn1
 go_wp2_with fail
 refine (show Calls Tryz.prog 35 #[Zp pb,.string ⟨#[44]⟩] u3 (fun e w'=>e=.returned (.tuple #[])∧DS w' pb al L en (nest+1) s3∧T1 pb u3 w') from by rw[hs3];exact dtake_any u3 pb al L en (nest+1) s2 [44] hL hlen (by decide) HQ.out.ds).mono ?_
 rintro e u4 ⟨rfl,hds,ht⟩
 replace HA:=Zh (HA.out.t1 ht (by have:=HC.out;omega))
 replace HR:=Zh (HR.out.t1 ht (by have:=HC.out;omega))
 replace HX:=Zh (HX.out.t1 ht (by have:=HC.out;omega))
 replace HVx:=Zh (HVx.out.t1 okE_f ht (fun k (hk:n1≤k∧k < BX)=>by have:=HC.out;omega))
 replace HQ:=Zh (HQ.out.call ht hds)
 replace HC:=Zh (cU HC.out ht.size)
 clear ht hds
 obtain⟨n2,hn2⟩:=nm u4.heap.size
 replace HC:=Zh (cM HC.out hn2)
 go_wp2_with fail
 refine (show Calls Tryz.prog 57 #[Zp pb,Zi 1] u4 (DP A7 u4 pb al L en (nest+1) s4 (okE (New noB u4.heap.size))) from by rw[hs4];exact hW u4 s3 (nest+1) HQ.out.ds (by rw[← hs4];exact hne4)).mono ?_
 rintro e u5 ⟨_,rfl,⟨yk,yo,yn,yl,ym,ys,ya,yq,yc,rfl⟩,hds,ht,hv⟩
 replace HA:=Zh (HA.out.t1 ht (by have:=HC.out;omega))
 replace HR:=Zh (HR.out.t1 ht (by have:=HC.out;omega))
 replace HX:=Zh (HX.out.t1 ht (by have:=HC.out;omega))
 replace HVx:=Zh (HVx.out.t1 okE_f ht (fun k (hk:n1≤k∧k < BX)=>by have:=HC.out;omega))
 replace HQ:=Zh (HQ.out.call ht hds)
 replace HC:=Zh (cU HC.out ht.size)
 clear ht hds
 obtain⟨u6,hu6⟩:=nm (u5.alloc (.cells #[Zi yk,Zi yo,Zi yn,.string ys,.slice ya yq yc,Zi yl,Zi ym] 66))
 obtain⟨BY,hBY⟩:=nm u5.heap.size
 have hb:Below u5.heap.size u5 u6:=by rw[hu6];exact bel_al _ _
 have HY:Hid (Row7 u6 BY (Zi yk) (Zi yo) (Zi yn) (.string ys) (.slice ya yq yc) (Zi yl) (Zi ym)):=Zh (by rw[hu6,hBY];exact heap_alloc_new _ _ rfl)
 have HVy:Hid (OV okE (fun k=>n2≤k∧k < BY) s4 (.agg #[Zi yk,Zi yo,Zi yn,.string ys,.slice ya yq yc,Zi yl,Zi ym]) u6):=Zh (OV.res hv okE_f okE_lt' hb (fun k h1 h2=>⟨by omega,by omega⟩))
 clear hv
 have hc0:=HC.out
 replace HA:=Zh (HA.out.kept hb)
 replace HR:=Zh (HR.out.kept hb)
 replace HX:=Zh (HX.out.kept hb)
 replace HVx:=Zh (HVx.out.bel okE_f hb)
 replace HQ:=Zh (HQ.out.bel hb)
 replace HC:=Zh (cA HC.out hBY (blk_lt HY.out))
 clear hb hc0
 go_upto_region 5 with fail
 rw[← hu6,← hBY]
 clear hu6 hBY
 clear hn2
 go_wp2_with fail
 refine (show Calls Tryz.prog 60 #[Zp pb,.string ⟨#[41]⟩] u6 (fun e w'=>e=.returned (.tuple #[])∧DS w' pb al L en nest s5∧T1 pb u6 w') from by rw[hs5,← toU_bind];exact dcloses_any u6 pb al L en nest (toU s4) [41] hL hlen (by omega) (by decide) HQ.out.ds.toU).mono ?_
 rintro e u7 ⟨rfl,hds,ht⟩
 replace HA:=Zh (HA.out.t1 ht (by have:=HC.out;omega))
 replace HR:=Zh (HR.out.t1 ht (by have:=HC.out;omega))
 replace HX:=Zh (HX.out.t1 ht (by have:=HC.out;omega))
 replace HY:=Zh (HY.out.t1 ht (by have:=HC.out;omega))
 replace HVx:=Zh (HVx.out.t1 okE_f ht (fun k (hk:n1≤k∧k < BX)=>by have:=HC.out;omega))
 replace HVy:=Zh (HVy.out.t1 okE_f ht (fun k (hk:n2≤k∧k < BY)=>by have:=HC.out;omega))
 replace HQ:=Zh (HQ.out.call ht hds)
 replace HC:=Zh (cU HC.out ht.size)
 clear ht hds
 obtain⟨v9,hv9⟩:=nm (u7.alloc (.cells #[Zi xk,Zi xo,Zi xn,.string xs,.slice xa xq xc,Zi xl,Zi xm,Zi yk,Zi yo,Zi yn,.string ys,.slice ya yq yc,Zi yl,Zi ym] 66))
 have hb:Below u7.heap.size u7 v9:=by rw[hv9];exact bel_al _ _
 have hc:=HC.out
 have hv:OV okE (fun k=>w.heap.size+1 < k) G (.agg #[Zi 7,Zi 29,Zi 0,Ze,.slice (some ⟨u7.heap.size,0,none⟩) 2 2,Zi (pl:Int),Zi (pc:Int)]) v9:=fun X r e=>by
  obtain⟨x,rx,y,ry,e2,e4,rfl⟩:=key.2.1 X r e
  refine⟨_,rfl,?_⟩
  rw[hv9]
  exact ArC_new (okE_cons (okE_mono (HVx.out x rx e2) (fun k hk _=>by obtain⟨h1,h2⟩:=hk;omega)) (okE_cons (okE_mono (HVy.out y ry e4) (fun k hk _=>by obtain⟨h1,h2⟩:=hk;omega)) .nil)) (fun k hk=>hk) (by omega)
 have hq9:DQ w v9 pb al L en nest G:=(HQ.out.call (T1.bel (Below.refl _ _)) (HQ.out.ds.like key.1)).bel hb
 obtain⟨⟨x0,x1,x2,x3,x4,x5,x6⟩,_⟩:=HX.out.cells
 obtain⟨⟨y0,y1,y2,y3,y4,y5,y6⟩,_⟩:=HY.out.cells
 obtain⟨a0,a1⟩:=(HA.out.kept hb).cells.1
 have HR9:Hid (Row7 v9 (w.heap.size+1) (Zi 0) (Zi 0) (Zi 0) (Ze) (Zn) (Zi 0) (Zi 0)):=Zh (HR.out.kept hb)
 clear HR
 have HR:=Zh HR9.out
 clear HR9
 have HF:=Zh (dres7 (P':=New noB w.heap.size) hq9 (by omega) HR.out ⟨_,_,_,_,_,_,_,_,_,rfl⟩ okE_f hv (fun k (hk:w.heap.size+1 < k)=>⟨.inr (by omega),by omega⟩))
 obtain⟨_,f0,f1,f2,f3,f4,f5,f6⟩:=HR.out.cells
 clear HQ HR hv hq9 hc HC HVx HVy HA HX HY hb key hs1 hs2 hs3 hs4 hs5 hne2 hne4
 subst hv9
 go_wp2_with fail
 obtain⟨⟨d0,d1,d2,d3,d4,d5,d6⟩,_⟩:=HF.out.1.cells
 exact bodyPost_ret (v:=.agg #[Zi 7,Zi 29,Zi 0,Ze,.slice (some ⟨u7.heap.size,0,none⟩) 2 2,Zi (pl:Int),Zi (pc:Int)]) (by simp[results,Tryz.results116,go_sem,d0,d1,d2,d3,d4,d5,d6]) rfl HF.out.2
theorem dtwoMin_any {pb:Nat} {al:Value} {L:List Tok} {en:Nat × Nat} {f:Nat} (hL:TksOk L) (hlen:L.length≤70000) (hW:DCw pb al L en f) (w:World) (ts:List Tok) (nest pl pc:Nat) (hds:DS w pb al L en nest (.ok () ts:PR Unit)) (hne:((pTw en f nest ts).bind fun xy r5=>.ok (.mk 7 28 0 [] [xy.1,xy.2] (pl,pc)) r5:PR Ex)≠.er (0,0) 0):Calls Tryz.prog 116 #[Zp pb,.string ⟨#[109,105,110]⟩,.agg #[Zi (pl:Int),Zi (pc:Int)]] w (DP A7 w pb al L en nest ((pTw en f nest ts).bind fun xy r5=>.ok (.mk 7 28 0 [] [xy.1,xy.2] (pl,pc)) r5) (okE (New noB w.heap.size))):=by
 have hn:nest≤200:=hds.1
 obtain⟨s1,hs1⟩:=nm (pOp en nest [40] ts:PR Unit)
 obtain⟨s2,hs2⟩:=nm (s1.bind fun _ t=>pWh en f (nest+1) t:PR Ex)
 obtain⟨s3,hs3⟩:=nm (s2.bind fun _ t=>pMust en [44] t:PR Unit)
 obtain⟨s4,hs4⟩:=nm (s3.bind fun _ t=>pWh en f (nest+1) t:PR Ex)
 obtain⟨s5,hs5⟩:=nm (s4.bind fun _ t=>pMust en [41] t:PR Unit)
 obtain⟨G,hG⟩:=nm ((pTw en f nest ts).bind fun xy r5=>.ok (.mk 7 28 0 [] [xy.1,xy.2] (pl,pc)) r5:PR Ex)
 rw[← hG] at hne ⊢
 have key:Like s5 G∧(∀X r,G=.ok X r→∃x rx y ry,s2=.ok x rx∧s4=.ok y ry∧X=.mk 7 28 0 [] [x,y] (pl,pc))∧(∀p e,s2=.er p e→G=.er p e)∧(∀p e,s4=.er p e→G=.er p e):=by
  have h:=like2 (pOp en nest [40] ts) (fun t=>pWh en f (nest+1) t) (fun t=>pMust en [44] t) (fun t=>pWh en f (nest+1) t) (fun t=>pMust en [41] t) (fun x y=>Ex.mk 7 28 0 [] [x,y] (pl,pc))
  have e:G=(pOp en nest [40] ts).bind fun _ t=>(pWh en f (nest+1) t).bind fun x t=>(pMust en [44] t).bind fun _ t=>(pWh en f (nest+1) t).bind fun y t=>(pMust en [41] t).bind fun _ t=>.ok (Ex.mk 7 28 0 [] [x,y] (pl,pc)) t:=by
   rw[hG]
   unfold pTw
   rw[pBr_op]
   simp only[PR.bind_assoc,PR.bind_ok]
  rw[← e,← hs1,← hs2,← hs3,← hs4,← hs5] at h
  exact h
 have hne2:s2≠.er (0,0) 0:=fun h=>hne (key.2.2.1 _ _ h)
 have hne4:s4≠.er (0,0) 0:=fun h=>hne (key.2.2.2 _ _ h)
 clear hne hG
 obtain⟨ua,hua⟩:=nm (w.alloc (.cells #[Zi (pl:Int),Zi (pc:Int)] 43))
 obtain⟨u0,hu0⟩:=nm (ua.alloc (.cells #[Zi 0,Zi 0,Zi 0,Ze,Zn,Zi 0,Zi 0] 66))
 have sa:ua.heap.size=w.heap.size+1:=by rw[hua];simp
 have hba:Below w.heap.size w ua:=by rw[hua];exact bel_al _ _
 have hb1:Below ua.heap.size ua u0:=by rw[hu0];exact bel_al _ _
 have hb0:Below w.heap.size w u0:=hba.trans (hb1.mono hba.size)
 have HQ:=Zh ((DQ.start hds).bel hb0)
 have HA:Hid (RowP u0 w.heap.size (Zi (pl:Int)) (Zi (pc:Int))):=Zh (RowP.kept (by rw[hua];exact heap_alloc_new _ _ rfl) hb1)
 have HR:Hid (Row7 u0 (w.heap.size+1) (Zi 0) (Zi 0) (Zi 0) (Ze) (Zn) (Zi 0) (Zi 0)):=Zh (by rw[hu0,← sa];exact heap_alloc_new _ _ rfl)
 have HC:Hid (pb < w.heap.size∧w.heap.size < w.heap.size+1∧w.heap.size+1 < u0.heap.size):=Zh ⟨HQ.out.lt,by omega,blk_lt HR.out⟩
 clear hb0 hb1 hba sa
 clear hds
 go_enter Tryz.func116,Tryz.ntmps116
 go_upto_region 1 with fail
 rw[← hua,← hu0]
 clear hua hu0
 go_wp2_with fail
 refine (show Calls Tryz.prog 58 #[Zp pb,.string ⟨#[40]⟩] u0 (fun e w'=>e=.returned (.tuple #[])∧DS w' pb al L en (nest+1) s1∧T1 pb u0 w') from by rw[hs1];exact dopens_any u0 pb al L en nest (.ok () ts) [40] hL hlen (by omega) (by decide) HQ.out.ds).mono ?_
 rintro e u1 ⟨rfl,hds,ht⟩
 replace HA:=Zh (HA.out.t1 ht (by have:=HC.out;omega))
 replace HR:=Zh (HR.out.t1 ht (by have:=HC.out;omega))
 replace HQ:=Zh (HQ.out.call ht hds)
 replace HC:Hid ((pb < w.heap.size∧w.heap.size+1≤w.heap.size+1)∧w.heap.size+1+1≤u1.heap.size):=Zh (by have h1:=HC.out;have h2:=ht.size;omega)
 clear ht hds
 obtain⟨n1,hn1⟩:=nm u1.heap.size
 replace HC:=Zh (cM HC.out hn1)
 go_wp2_with fail
 refine (show Calls Tryz.prog 57 #[Zp pb,Zi 1] u1 (DP A7 u1 pb al L en (nest+1) s2 (okE (New noB u1.heap.size))) from by rw[hs2];exact hW u1 s1 (nest+1) HQ.out.ds (by rw[← hs2];exact hne2)).mono ?_
 rintro e u2 ⟨_,rfl,⟨xk,xo,xn,xl,xm,xs,xa,xq,xc,rfl⟩,hds,ht,hv⟩
 replace HA:=Zh (HA.out.t1 ht (by have:=HC.out;omega))
 replace HR:=Zh (HR.out.t1 ht (by have:=HC.out;omega))
 replace HQ:=Zh (HQ.out.call ht hds)
 replace HC:=Zh (cU HC.out ht.size)
 clear ht hds
 obtain⟨u3,hu3⟩:=nm (u2.alloc (.cells #[Zi xk,Zi xo,Zi xn,.string xs,.slice xa xq xc,Zi xl,Zi xm] 66))
 obtain⟨BX,hBX⟩:=nm u2.heap.size
 have hb:Below u2.heap.size u2 u3:=by rw[hu3];exact bel_al _ _
 have HX:Hid (Row7 u3 BX (Zi xk) (Zi xo) (Zi xn) (.string xs) (.slice xa xq xc) (Zi xl) (Zi xm)):=Zh (by rw[hu3,hBX];exact heap_alloc_new _ _ rfl)
 have HVx:Hid (OV okE (fun k=>n1≤k∧k < BX) s2 (.agg #[Zi xk,Zi xo,Zi xn,.string xs,.slice xa xq xc,Zi xl,Zi xm]) u3):=Zh (OV.res hv okE_f okE_lt' hb (fun k h1 h2=>⟨by omega,by omega⟩))
 clear hv
 have hc0:=HC.out
 replace HA:=Zh (HA.out.kept hb)
 replace HR:=Zh (HR.out.kept hb)
 replace HQ:=Zh (HQ.out.bel hb)
 replace HC:=Zh (cA HC.out hBX (blk_lt HX.out))
 clear hb hc0
 go_upto_region 3 with fail
 rw[← hu3,← hBX]
 clear hu3 hBX
 clear hn1
 go_wp2_with fail
 refine (show Calls Tryz.prog 35 #[Zp pb,.string ⟨#[44]⟩] u3 (fun e w'=>e=.returned (.tuple #[])∧DS w' pb al L en (nest+1) s3∧T1 pb u3 w') from by rw[hs3];exact dtake_any u3 pb al L en (nest+1) s2 [44] hL hlen (by decide) HQ.out.ds).mono ?_
 rintro e u4 ⟨rfl,hds,ht⟩
 replace HA:=Zh (HA.out.t1 ht (by have:=HC.out;omega))
 replace HR:=Zh (HR.out.t1 ht (by have:=HC.out;omega))
 replace HX:=Zh (HX.out.t1 ht (by have:=HC.out;omega))
 replace HVx:=Zh (HVx.out.t1 okE_f ht (fun k (hk:n1≤k∧k < BX)=>by have:=HC.out;omega))
 replace HQ:=Zh (HQ.out.call ht hds)
 replace HC:=Zh (cU HC.out ht.size)
 clear ht hds
 obtain⟨n2,hn2⟩:=nm u4.heap.size
 replace HC:=Zh (cM HC.out hn2)
 go_wp2_with fail
 refine (show Calls Tryz.prog 57 #[Zp pb,Zi 1] u4 (DP A7 u4 pb al L en (nest+1) s4 (okE (New noB u4.heap.size))) from by rw[hs4];exact hW u4 s3 (nest+1) HQ.out.ds (by rw[← hs4];exact hne4)).mono ?_
 rintro e u5 ⟨_,rfl,⟨yk,yo,yn,yl,ym,ys,ya,yq,yc,rfl⟩,hds,ht,hv⟩
 replace HA:=Zh (HA.out.t1 ht (by have:=HC.out;omega))
 replace HR:=Zh (HR.out.t1 ht (by have:=HC.out;omega))
 replace HX:=Zh (HX.out.t1 ht (by have:=HC.out;omega))
 replace HVx:=Zh (HVx.out.t1 okE_f ht (fun k (hk:n1≤k∧k < BX)=>by have:=HC.out;omega))
 replace HQ:=Zh (HQ.out.call ht hds)
 replace HC:=Zh (cU HC.out ht.size)
 clear ht hds
 obtain⟨u6,hu6⟩:=nm (u5.alloc (.cells #[Zi yk,Zi yo,Zi yn,.string ys,.slice ya yq yc,Zi yl,Zi ym] 66))
 obtain⟨BY,hBY⟩:=nm u5.heap.size
 have hb:Below u5.heap.size u5 u6:=by rw[hu6];exact bel_al _ _
 have HY:Hid (Row7 u6 BY (Zi yk) (Zi yo) (Zi yn) (.string ys) (.slice ya yq yc) (Zi yl) (Zi ym)):=Zh (by rw[hu6,hBY];exact heap_alloc_new _ _ rfl)
 have HVy:Hid (OV okE (fun k=>n2≤k∧k < BY) s4 (.agg #[Zi yk,Zi yo,Zi yn,.string ys,.slice ya yq yc,Zi yl,Zi ym]) u6):=Zh (OV.res hv okE_f okE_lt' hb (fun k h1 h2=>⟨by omega,by omega⟩))
 clear hv
 have hc0:=HC.out
 replace HA:=Zh (HA.out.kept hb)
 replace HR:=Zh (HR.out.kept hb)
 replace HX:=Zh (HX.out.kept hb)
 replace HVx:=Zh (HVx.out.bel okE_f hb)
 replace HQ:=Zh (HQ.out.bel hb)
 replace HC:=Zh (cA HC.out hBY (blk_lt HY.out))
 clear hb hc0
 go_upto_region 5 with fail
 rw[← hu6,← hBY]
 clear hu6 hBY
 clear hn2
 go_wp2_with fail
 refine (show Calls Tryz.prog 60 #[Zp pb,.string ⟨#[41]⟩] u6 (fun e w'=>e=.returned (.tuple #[])∧DS w' pb al L en nest s5∧T1 pb u6 w') from by rw[hs5,← toU_bind];exact dcloses_any u6 pb al L en nest (toU s4) [41] hL hlen (by omega) (by decide) HQ.out.ds.toU).mono ?_
 rintro e u7 ⟨rfl,hds,ht⟩
 replace HA:=Zh (HA.out.t1 ht (by have:=HC.out;omega))
 replace HR:=Zh (HR.out.t1 ht (by have:=HC.out;omega))
 replace HX:=Zh (HX.out.t1 ht (by have:=HC.out;omega))
 replace HY:=Zh (HY.out.t1 ht (by have:=HC.out;omega))
 replace HVx:=Zh (HVx.out.t1 okE_f ht (fun k (hk:n1≤k∧k < BX)=>by have:=HC.out;omega))
 replace HVy:=Zh (HVy.out.t1 okE_f ht (fun k (hk:n2≤k∧k < BY)=>by have:=HC.out;omega))
 replace HQ:=Zh (HQ.out.call ht hds)
 replace HC:=Zh (cU HC.out ht.size)
 clear ht hds
 obtain⟨v9,hv9⟩:=nm (u7.alloc (.cells #[Zi xk,Zi xo,Zi xn,.string xs,.slice xa xq xc,Zi xl,Zi xm,Zi yk,Zi yo,Zi yn,.string ys,.slice ya yq yc,Zi yl,Zi ym] 66))
 have hb:Below u7.heap.size u7 v9:=by rw[hv9];exact bel_al _ _
 have hc:=HC.out
 have hv:OV okE (fun k=>w.heap.size+1 < k) G (.agg #[Zi 7,Zi 28,Zi 0,Ze,.slice (some ⟨u7.heap.size,0,none⟩) 2 2,Zi (pl:Int),Zi (pc:Int)]) v9:=fun X r e=>by
  obtain⟨x,rx,y,ry,e2,e4,rfl⟩:=key.2.1 X r e
  refine⟨_,rfl,?_⟩
  rw[hv9]
  exact ArC_new (okE_cons (okE_mono (HVx.out x rx e2) (fun k hk _=>by obtain⟨h1,h2⟩:=hk;omega)) (okE_cons (okE_mono (HVy.out y ry e4) (fun k hk _=>by obtain⟨h1,h2⟩:=hk;omega)) .nil)) (fun k hk=>hk) (by omega)
 have hq9:DQ w v9 pb al L en nest G:=(HQ.out.call (T1.bel (Below.refl _ _)) (HQ.out.ds.like key.1)).bel hb
 obtain⟨⟨x0,x1,x2,x3,x4,x5,x6⟩,_⟩:=HX.out.cells
 obtain⟨⟨y0,y1,y2,y3,y4,y5,y6⟩,_⟩:=HY.out.cells
 obtain⟨a0,a1⟩:=(HA.out.kept hb).cells.1
 have HR9:Hid (Row7 v9 (w.heap.size+1) (Zi 0) (Zi 0) (Zi 0) (Ze) (Zn) (Zi 0) (Zi 0)):=Zh (HR.out.kept hb)
 clear HR
 have HR:=Zh HR9.out
 clear HR9
 have HF:=Zh (dres7 (P':=New noB w.heap.size) hq9 (by omega) HR.out ⟨_,_,_,_,_,_,_,_,_,rfl⟩ okE_f hv (fun k (hk:w.heap.size+1 < k)=>⟨.inr (by omega),by omega⟩))
 obtain⟨_,f0,f1,f2,f3,f4,f5,f6⟩:=HR.out.cells
 clear HQ HR hv hq9 hc HC HVx HVy HA HX HY hb key hs1 hs2 hs3 hs4 hs5 hne2 hne4
 subst hv9
 go_wp2_with fail
 obtain⟨⟨d0,d1,d2,d3,d4,d5,d6⟩,_⟩:=HF.out.1.cells
 exact bodyPost_ret (v:=.agg #[Zi 7,Zi 28,Zi 0,Ze,.slice (some ⟨u7.heap.size,0,none⟩) 2 2,Zi (pl:Int),Zi (pc:Int)]) (by simp[results,Tryz.results116,go_sem,d0,d1,d2,d3,d4,d5,d6]) rfl HF.out.2
end Go.Proofs.YtlfooogmoigpfaaGreatDoor
