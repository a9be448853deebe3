import Derived.Test.YtlfooogmoigpfaaGreatDoorQad
import Derived.Test.YtlfooogmoigpfaaGreatDoorQav
import Derived.Deep.CutBlock
import Derived.Deep.CutRange
import Derived.Defers
import Derived.Recover
import Derived.Test.YtlfooogmoigpfaaGreatDoorQar
import Derived.Test.YtlfooogmoigpfaaGreatDoorQaa
set_option maxRecDepth 100000
set_option maxHeartbeats 8000000
namespace Go.Proofs.YtlfooogmoigpfaaGreatDoor
open Go.RowKit Go.Sort Go.Shelf
theorem rfault_any (w:World) (line col:Nat) (n:Int):Calls Tryz.prog 26 #[.agg #[Zi (line:Int),Zi (col:Int)],Zi n] w fun e w'=>e=.returned (.agg #[Zi (line:Int),Zi (col:Int),Zi n])∧Below w.heap.size w w':=by
 have hb:∀o1 o2,Below w.heap.size w ((w.alloc o1).alloc o2):=fun o1 o2=>(bel_al w o1).alloc (by simp) o2
 have HB:=Zh hb
 clear hb
 go_enter Tryz.func26,Tryz.ntmps26
 go_wp2
 exact bodyPost_ret (v:=.agg #[Zi (line:Int),Zi (col:Int),Zi n]) (by simp[results,Tryz.results26,go_sem]) rfl ⟨rfl,HB.out _ _⟩
theorem spO_next (L:List UInt8) (j:Nat) (h:j < L.length):spO L (j+1)=if L[j].toNat=10 then ((spO L j).1+1,1) else ((spO L j).1,(spO L j).2+1):=by
 unfold spO
 rw[List.take_succ_eq_append_getElem h,spL_app]
 rfl
structure DI (w:World) (F P:Nat) (L:List UInt8) (U:World) (m:Nat) (av:Value) (acc:List Tok):Prop where
 fb:U.heap[F]? = some (.cells #[Zi 0,Zi 0,Zi 0] 27 (0,0))
 pb:U.heap[P]? = some (.cells #[Zi ((spO L m).1:Int),Zi ((spO L m).2:Int)] 43 (0,0))
 own:OwnT U (P+1) av acc
 bel:Below w.heap.size w U
 lo:w.heap.size≤F
 fp:F < P
theorem DI.below {w:World} {F P:Nat} {L:List UInt8} {U U':World} {m:Nat} {av:Value} {acc:List Tok} (h:DI w F P L U m av acc) (hb:Below U.heap.size U U'):DI w F P L U' m av acc:=
 ⟨(hb.block _ (blk_lt h.fb)).trans h.fb,(hb.block _ (blk_lt h.pb)).trans h.pb,h.own.kept hb,h.bel.trans (hb.mono h.bel.size),h.lo,h.fp⟩
theorem DI.pcells {w:World} {F P:Nat} {L:List UInt8} {U:World} {m:Nat} {av:Value} {acc:List Tok} (h:DI w F P L U m av acc):U.cell? ⟨P,0,none⟩=some (Zi ((spO L m).1:Int))∧U.cell? ⟨P,1,none⟩=some (Zi ((spO L m).2:Int))∧U.frozen? ⟨P,0,none⟩=false∧U.frozen? ⟨P,1,none⟩=false:=by
 have h1:=h.pb
 exact⟨by simp[World.cell?,h1],by simp[World.cell?,h1],frozen_of_row U P 0 _ _ h1,frozen_of_row U P 1 _ _ h1⟩
theorem DI.fcells {w:World} {F P:Nat} {L:List UInt8} {U:World} {m:Nat} {av:Value} {acc:List Tok} (h:DI w F P L U m av acc):U.cell? ⟨F,0,none⟩=some (Zi 0)∧U.cell? ⟨F,1,none⟩=some (Zi 0)∧U.cell? ⟨F,2,none⟩=some (Zi 0)∧U.frozen? ⟨F,0,none⟩=false∧U.frozen? ⟨F,1,none⟩=false∧U.frozen? ⟨F,2,none⟩=false:=by
 have h1:=h.fb
 exact⟨by simp[World.cell?,h1],by simp[World.cell?,h1],by simp[World.cell?,h1],frozen_of_row U F 0 _ _ h1,frozen_of_row U F 1 _ _ h1,frozen_of_row U F 2 _ _ h1⟩
theorem DI.pset {w:World} {F P:Nat} {L:List UInt8} {U U':World} {m m':Nat} {av:Value} {acc:List Tok} (h:DI w F P L U m av acc) (ht:T1 P U U') (hp:U'.heap[P]? = some (.cells #[Zi ((spO L m').1:Int),Zi ((spO L m').2:Int)] 43 (0,0))):DI w F P L U' m' av acc:=
 ⟨(ht.block F (blk_lt h.fb) (by have:=h.fp;omega)).trans h.fb,hp,ownsRow_same h.own (fun g hg=>ht.block g (World.ownsRow.lt h.own g hg).2 (by have:=(World.ownsRow.lt h.own g hg).1;omega)),⟨ht.os.trans h.bel.os,ht.tape.trans h.bel.tape,ht.output.trans h.bel.output,Nat.le_trans h.bel.size ht.size,fun q hq=>(ht.block q (Nat.lt_of_lt_of_le hq h.bel.size) (by have:=h.lo;have:=h.fp;omega)).trans (h.bel.block q hq)⟩,h.lo,h.fp⟩
theorem pset1 {U:World} {P:Nat} {a b:Value} (h:U.heap[P]? = some (.cells #[a,b] 43 (0,0))) (c:Value):T1 P U (U.setCell ⟨P,1,none⟩ c)∧(U.setCell ⟨P,1,none⟩ c).heap[P]? = some (.cells #[a,c] 43 (0,0)):=⟨T1.set,heap_setCell_same U P 1 _ _ c h⟩
theorem pset0 {U:World} {P:Nat} {a b:Value} (h:U.heap[P]? = some (.cells #[a,b] 43 (0,0))) (c:Value):T1 P U (U.setCell ⟨P,0,none⟩ c)∧(U.setCell ⟨P,0,none⟩ c).heap[P]? = some (.cells #[c,b] 43 (0,0)):=⟨T1.set,heap_setCell_same U P 0 _ _ c h⟩
theorem DI.app {w:World} {F P:Nat} {L:List UInt8} {U U':World} {m:Nat} {av av':Value} {acc acc':List Tok} (h:DI w F P L U m av acc) (ho:OwnT U' (P+1) av' acc') (hg:U.grownBy U' av.ownBlock):DI w F P L U' m av' acc':=
 ⟨(hg.block F (blk_lt h.fb) (fun e=>by have:=(World.ownsRow.lt h.own F e.symm).1;have:=h.fp;omega)).trans h.fb,(hg.block P (blk_lt h.pb) (fun e=>by have:=(World.ownsRow.lt h.own P e.symm).1;omega)).trans h.pb,ho,h.bel.trans ((below_grownS hg (B:=P+1) (fun g hg2=>(World.ownsRow.lt h.own g hg2).1) (blk_lt h.pb)).mono (by have:=h.lo;have:=h.fp;omega)),h.lo,h.fp⟩
theorem DI.fset {w:World} {F P:Nat} {L:List UInt8} {U:World} {m:Nat} {av:Value} {acc:List Tok} (h:DI w F P L U m av acc) (a b c:Value):(((U.setCell ⟨F,0,none⟩ a).setCell ⟨F,1,none⟩ b).setCell ⟨F,2,none⟩ c).cell? ⟨F,0,none⟩=some a∧(((U.setCell ⟨F,0,none⟩ a).setCell ⟨F,1,none⟩ b).setCell ⟨F,2,none⟩ c).cell? ⟨F,1,none⟩=some b∧(((U.setCell ⟨F,0,none⟩ a).setCell ⟨F,1,none⟩ b).setCell ⟨F,2,none⟩ c).cell? ⟨F,2,none⟩=some c∧Below w.heap.size w (((U.setCell ⟨F,0,none⟩ a).setCell ⟨F,1,none⟩ b).setCell ⟨F,2,none⟩ c)∧OwnT (((U.setCell ⟨F,0,none⟩ a).setCell ⟨F,1,none⟩ b).setCell ⟨F,2,none⟩ c) (P+1) av acc:=by
 have k1:=heap_setCell_same _ F 2 _ _ c (heap_setCell_same _ F 1 _ _ b (heap_setCell_same U F 0 _ _ a h.fb))
 refine⟨by simp[World.cell?,k1],by simp[World.cell?,k1],by simp[World.cell?,k1],((h.bel.setCell (p:=⟨F,0,none⟩) h.lo a).setCell (p:=⟨F,1,none⟩) h.lo b).setCell (p:=⟨F,2,none⟩) h.lo c,ownsRow_same h.own (fun g hg=>?_)⟩
 have hgF:g≠F:=by have:=(World.ownsRow.lt h.own g hg).1;have:=h.fp;omega
 exact (heap_setCell_other _ ⟨F,2,none⟩ g _ hgF).trans ((heap_setCell_other _ ⟨F,1,none⟩ g _ hgF).trans (heap_setCell_other _ ⟨F,0,none⟩ g _ hgF))
theorem DI.other {w:World} {F P:Nat} {L:List UInt8} {U U':World} {m B:Nat} {av:Value} {acc:List Tok} (h:DI w F P L U m av acc) (ht:T1 B U U') (hB:P < B) (hob:∀g,av.ownBlock=some g→g < B):DI w F P L U' m av acc:=
 ⟨(ht.block F (blk_lt h.fb) (by have:=h.fp;omega)).trans h.fb,(ht.block P (blk_lt h.pb) (by omega)).trans h.pb,ownsRow_same h.own (fun g hg=>ht.block g (World.ownsRow.lt h.own g hg).2 (by have:=hob g hg;omega)),⟨ht.os.trans h.bel.os,ht.tape.trans h.bel.tape,ht.output.trans h.bel.output,Nat.le_trans h.bel.size ht.size,fun q hq=>(ht.block q (Nat.lt_of_lt_of_le hq h.bel.size) (by have:=h.lo;have:=h.fp;omega)).trans (h.bel.block q hq)⟩,h.lo,h.fp⟩
structure DB (w:World) (F P:Nat) (L:List UInt8) (U:World) (m:Nat) (av:Value) (acc:List Tok) (B:Nat) (v0 v1 v2 v3 v4:Value):Prop where
 di:DI w F P L U m av acc
 rw:Row5 U B v0 v1 v2 v3 v4
 pb:P < B
 ob:∀g,av.ownBlock=some g→g < B
theorem DI.box {w:World} {F P:Nat} {L:List UInt8} {U:World} {m:Nat} {av:Value} {acc:List Tok} (h:DI w F P L U m av acc) (v0 v1 v2 v3 v4:Value):DB w F P L (U.alloc (.cells #[v0,v1,v2,v3,v4] 83)) m av acc U.heap.size v0 v1 v2 v3 v4:=
 ⟨h.below (bel_al U _),Row5.al _ _ _ _ _ _,blk_lt h.pb,fun g hg=>(World.ownsRow.lt h.own g hg).2⟩
theorem DB.below {w:World} {F P:Nat} {L:List UInt8} {U U':World} {m:Nat} {av:Value} {acc:List Tok} {B:Nat} {v0 v1 v2 v3 v4:Value} (h:DB w F P L U m av acc B v0 v1 v2 v3 v4) (hb:Below U.heap.size U U'):DB w F P L U' m av acc B v0 v1 v2 v3 v4:=⟨h.di.below hb,h.rw.kept hb,h.pb,h.ob⟩
theorem DB.set0 {w:World} {F P:Nat} {L:List UInt8} {U:World} {m:Nat} {av:Value} {acc:List Tok} {B:Nat} {v0 v1 v2 v3 v4:Value} (h:DB w F P L U m av acc B v0 v1 v2 v3 v4) (x:Value):DB w F P L (U.setCell ⟨B,0,none⟩ x) m av acc B x v1 v2 v3 v4:=⟨h.di.other T1.set h.pb h.ob,heap_setCell_same U B 0 _ _ x h.rw,h.pb,h.ob⟩
theorem DB.set1 {w:World} {F P:Nat} {L:List UInt8} {U:World} {m:Nat} {av:Value} {acc:List Tok} {B:Nat} {v0 v1 v2 v3 v4:Value} (h:DB w F P L U m av acc B v0 v1 v2 v3 v4) (x:Value):DB w F P L (U.setCell ⟨B,1,none⟩ x) m av acc B v0 x v2 v3 v4:=⟨h.di.other T1.set h.pb h.ob,heap_setCell_same U B 1 _ _ x h.rw,h.pb,h.ob⟩
theorem DB.set2 {w:World} {F P:Nat} {L:List UInt8} {U:World} {m:Nat} {av:Value} {acc:List Tok} {B:Nat} {v0 v1 v2 v3 v4:Value} (h:DB w F P L U m av acc B v0 v1 v2 v3 v4) (x:Value):DB w F P L (U.setCell ⟨B,2,none⟩ x) m av acc B v0 v1 x v3 v4:=⟨h.di.other T1.set h.pb h.ob,heap_setCell_same U B 2 _ _ x h.rw,h.pb,h.ob⟩
theorem tokA_com {l:List UInt8} (h:[47,42].isPrefixOf l=true):tokA l=.er 180:=by
 obtain⟨r,hr⟩:=List.isPrefixOf_iff_prefix.1 h
 have e:c0 l=47:=by rw[← hr];rfl
 unfold tokA
 rw[e,h]
 simp[leC,diC]
theorem own_digit {t:List UInt8} (h:diC (c0 t)=true):isOwn t=false:=by
 cases hc:isOwn t with
 | false=>rfl
 | true=>
  exfalso
  have key:∀x∈ownL,diC (c0 x)=false:=by decide
  unfold isOwn at hc
  rw[key t (List.contains_iff_mem.1 hc)] at h
  cases h
theorem cell_blk {W W':World} {b:Nat} (h:W'.heap[b]? = W.heap[b]?) (i:Nat):W'.cell? ⟨b,i,none⟩=W.cell? ⟨b,i,none⟩:=by simp only[World.cell?];rw[h]
def RtkPost (w:World) (r:TR) (e:Ending) (w':World):Prop:=match r with
 | .ok ts=>∃a c,e=.returned (.tuple #[.slice a ts.length c,.agg #[Zi 0,Zi 0,Zi 0]])∧OwnT w' w.heap.size (.slice a ts.length c) ts∧Below w.heap.size w w'
 | .er p x=>e=.returned (.tuple #[Zn,.agg #[Zi (p.1:Int),Zi (p.2:Int),Zi (x:Int)]])∧Below w.heap.size w w'
theorem rtokens_any (w:World) (L:List UInt8) (hL:L.length≤65536):Calls Tryz.prog 9 #[.string (S L)] w fun e w'=>RtkPost w (tksA L) e w':=by
 obtain⟨R,hR⟩:=nm (tksA L)
 rw[← hR]
 have HR:=Zh hR
 obtain⟨n,hn⟩:=nm (L.length)
 have HN:=Zh hn
 have hsz:(S L).size=n:=by rw[S_size,hn]
 have hn9:n≤65536:=by omega
 obtain⟨W0,hW0⟩:=nm ((w.alloc (.cells #[Zi 0,Zi 0,Zi 0] 27)).alloc (.cells #[Zi 1,Zi 1] 43))
 obtain⟨F,hF⟩:=nm (w.heap.size)
 obtain⟨P,hP⟩:=nm (w.heap.size+1)
 have HD0:Hid (DI w F P L W0 0 (Zn) []):=by
  refine⟨?_,?_,OwnT.nil _ _,?_,by omega,by omega⟩
  ·rw[hW0,hF]
   exact ((bel_al (w.alloc _) _).block _ (by simp)).trans (heap_alloc_new _ _ rfl)
  ·rw[hW0,hP]
   exact heap_alloc_new _ _ (by simp)
  ·rw[hW0]
   exact (bel_al w _).alloc (by simp) _
 have hFP:F < P:=by omega
 have HOv:Hid (∀U k,k≤L.length→Calls Tryz.prog 25 #[.string (S L),Zi (k:Int)] U fun e w'=>e=.returned (.tuple #[Zi (ovE L k:Nat),.bool (ovB L k)])∧w'=U):=fun U k hk=>over_any U L k hk hL
 have HSg:Hid (∀U k,k < L.length→Calls Tryz.prog 31 #[.string (S L),Zi (k:Int)] U fun e w'=>e=.returned (.string (S ((L.drop k).take (sgN (L.drop k)))))∧Below U.heap.size U w'):=fun U k hk=>rsign_any U L k hk hL
 have HL:=Zh hL
 clear hR hn hL
 go_enter Tryz.func9,Tryz.ntmps9
 go_wp2_with fail
 rw[← hW0,← hP,← hF]
 clear hW0 hF hP
 go_loopw[4,6,7] (fun x y z wr=>∃(a:Option Addr) (nt c m k:Nat),x=.slice a nt c∧y=Zi (m:Int)∧z=Zi (k:Int)∧k≤n∧m≤k∧Hid (∃f acc,DI w F P L wr m (.slice a nt c) acc∧R=tkR L f k acc∧L.length+1≤k+f∧acc.length≤k∧nt=acc.length)) (fun _ _ z _=>n+1 - (intOf z).toNat)
 case atStart=>exact⟨none,0,0,0,0,rfl,rfl,rfl,by omega,by omega,L.length+1,[],HD0.out,HR.out,by omega,by simp,rfl⟩
 case round=>
  clear HD0 HR
  obtain⟨a,nt,c,m,k,rfl,rfl,rfl,hkn,hmk,HI⟩:=hrel
  obtain⟨f,acc,hdi,hR,hf,hacc,hnt⟩:=HI.out
  have HDI:=Zh hdi
  have HOv2:=Zh (HOv.out wr k (by rw[← HN.out];exact hkn))
  obtain⟨f',rfl⟩:∃f',f=f'+1:=⟨f - 1,by have:=HN.out;omega⟩
  have HRk:Hid (R=tkE L f' (ovE L k) acc):=by show R=_;rw[hR,tkR_tkE];rfl
  have HB:Hid (ovB L k = !([47,42].isPrefixOf (L.drop (ovE L k)))):=rfl
  have hke:k≤ovE L k∧ovE L k≤n:=by
   have h1:=KL_le (L.drop k)
   rw[List.length_drop,← HN.out] at h1
   unfold ovE
   omega
  have HF:=Zh (And.intro hf (And.intro hacc hnt))
  clear hdi hR hf hacc hnt HI
  generalize ovE L k=e at *
  generalize hob:ovB L k=ob at *
  clear hob
  obtain⟨hke1,hen⟩:=hke
  have hme:m≤e:=by omega
  go_wp2_with (first | (go_at_call 25;refine HOv2.out.mono ?_;rintro e9 wE ⟨rfl,hwE⟩;have hwE':=hwE.symm;subst hwE';clear hwE) | fail)
  go_loopw[6] (fun y wq=>∃(j:Nat),j≤e∧y=Zi (j:Int)∧Hid (DI w F P L wq j (.slice a nt c) acc)) (fun y _=>e - (intOf y).toNat)
  case atStart=>exact⟨m,hme,rfl,HDI.out⟩
  case round=>
   clear HDI
   obtain⟨j,hje,rfl,HDJ⟩:=hrel
   by_cases hlt:j < e
   ·have hjI:(j:Int) < (e:Int):=by omega
    have hjl:j < L.length:=by rw[← HN.out];omega
    have hjS:j < (S L).size:=by rw[hsz];omega
    obtain⟨d,hd⟩:=nm (L[j].toNat)
    have hget:((S L)[j]'hjS).toNat=d:=by rw[hd];exact congrArg UInt8.toNat (S_get L j hjS)
    obtain⟨p0,p1,p2,p3⟩:=HDJ.out.pcells
    have hsp:=spO_le L j
    have HNx:Hid (spO L (j+1)=if d=10 then ((spO L j).1+1,1) else ((spO L j).1,(spO L j).2+1)):=by show _=_;rw[hd];exact spO_next L j hjl
    have HPb:=Zh HDJ.out.pb
    obtain⟨⟨ql,qc⟩,hq⟩:∃q,q=spO L j:=⟨_,rfl⟩
    rw[← hq] at p0 p1 hsp HNx HPb
    simp only at p0 p1 hsp HNx HPb
    have hqlI:(ql:Int)≤70000:=by omega
    have hqcI:(qc:Int)≤70000:=by omega
    clear hd hq hsp
    by_cases h10:d=10
    ·have hbI:((d:Int) == 10)=true:=by simp;omega
     have HNx2:Hid (spO L (j+1)=(ql+1,1)):=by show _=_;rw[HNx.out,if_pos h10]
     have t1:=pset1 HPb.out (Zi ((qc:Int)+1))
     have t2:=pset0 t1.2 (Zi ((ql:Int)+1))
     have t3:=pset1 t2.2 (Zi 1)
     have HD3:Hid (DI w F P L (((wr.setCell ⟨P,1,none⟩ (Zi ((qc:Int)+1))).setCell ⟨P,0,none⟩ (Zi ((ql:Int)+1))).setCell ⟨P,1,none⟩ (Zi 1)) (j+1) (.slice a nt c) acc):=HDJ.out.pset ((t1.1.trans t2.1).trans t3.1) (by rw[HNx2.out];exact t3.2)
     have g1:(wr.setCell ⟨P,1,none⟩ (Zi ((qc:Int)+1))).cell? ⟨P,0,none⟩=some (Zi (ql:Int)):=by simp[World.cell?,t1.2]
     have g2:(wr.setCell ⟨P,1,none⟩ (Zi ((qc:Int)+1))).frozen? ⟨P,0,none⟩=false:=frozen_of_row _ P 0 _ _ t1.2
     have g3:((wr.setCell ⟨P,1,none⟩ (Zi ((qc:Int)+1))).setCell ⟨P,0,none⟩ (Zi ((ql:Int)+1))).frozen? ⟨P,1,none⟩=false:=frozen_of_row _ P 1 _ _ t2.2
     have g4:((wr.setCell ⟨P,1,none⟩ (Zi ((qc:Int)+1))).setCell ⟨P,0,none⟩ (Zi ((ql:Int)+1))).cell? ⟨P,1,none⟩=some (Zi ((qc:Int)+1)):=by simp[World.cell?,t2.2]
     clear t1 t2 t3 HNx HNx2 h10 HPb HDJ
     go_wp2_with fail
     go_roundw
     case rel=>exact⟨j+1,by omega,by go_num,HD3.out⟩
     case measure=>simp[intOf];omega
    ·have hbI:((d:Int) == 10)=false:=by simp;omega
     have HNx2:Hid (spO L (j+1)=(ql,qc+1)):=by show _=_;rw[HNx.out,if_neg h10]
     have t1:=pset1 HPb.out (Zi ((qc:Int)+1))
     have HD3:Hid (DI w F P L (wr.setCell ⟨P,1,none⟩ (Zi ((qc:Int)+1))) (j+1) (.slice a nt c) acc):=HDJ.out.pset t1.1 (by rw[HNx2.out];exact t1.2)
     clear t1 HNx HNx2 h10 HPb HDJ
     go_wp2_with fail
     go_roundw
     case rel=>exact⟨j+1,by omega,by go_num,HD3.out⟩
     case measure=>simp[intOf];omega
   ·have hjI:¬(j:Int) < (e:Int):=by omega
    obtain rfl:j=e:=by omega
    have HKJ:=Zh hke1
    clear hjI hlt hje hke1 hme
    obtain⟨⟨ql,qc⟩,hq⟩:∃q,q=spO L j:=⟨_,rfl⟩
    have HSp:Hid (spO L j=(ql,qc)):=hq.symm
    have HCp:Hid (∀U,DI w F P L U j (.slice a nt c) acc→U.cell? ⟨P,0,none⟩=some (Zi (ql:Int))∧U.cell? ⟨P,1,none⟩=some (Zi (qc:Int))):=fun U h=>by
     obtain⟨p0,p1,_,_⟩:=h.pcells
     rw[← hq] at p0 p1
     exact⟨p0,p1⟩
    obtain⟨p0,p1⟩:=HCp.out _ HDJ.out
    clear hq
    cases ob with
    | false=>
     have hpre:[47,42].isPrefixOf (L.drop j)=true:=by have h:=HB.out;simpa using h.symm
     have HRe:Hid (R=.er (ql,qc) 180):=by
      show R=_
      rw[HRk.out]
      unfold tkE
      rw[if_neg (fun e=>by rw[e] at hpre;cases hpre),tokA_com hpre,HSp.out]
     have HDX:=HDJ
     clear hpre HB HRk HF
     have HFt:Hid (∀U,Calls Tryz.prog 26 #[.agg #[Zi (ql:Int),Zi (qc:Int)],Zi 180] U fun e w'=>e=.returned (.agg #[Zi (ql:Int),Zi (qc:Int),Zi 180])∧Below U.heap.size U w'):=fun U=>rfault_any U ql qc 180
     go_wp2_with fail
     refine (HFt.out _).mono ?_
     rintro e9 w9 ⟨rfl,hb9⟩
     have HD9:=Zh (HDX.out.below hb9)
     obtain⟨f0,f1,f2,f3,f4,f5⟩:=HD9.out.fcells
     have HE:=Zh (HD9.out.fset (Zi (ql:Int)) (Zi (qc:Int)) (Zi 180))
     clear hb9 HFt
     go_wp2_with fail
     obtain⟨s0,s1,s2,hb,_⟩:=HE.out
     exact bodyPost_ret (v:=.tuple #[Zn,.agg #[Zi (ql:Int),Zi (qc:Int),Zi 180]]) (by simp[results,Tryz.results9,go_sem,s0,s1,s2]) rfl (by rw[HRe.out];exact⟨rfl,hb⟩)
    | true=>
     have hpre:[47,42].isPrefixOf (L.drop j)=false:=by have h:=HB.out;simpa using h.symm
     have HPre:=Zh hpre
     clear HB hpre
     by_cases hend:j=n
     ·have hb1:((j:Int) == (n:Int))=true:=by simp;omega
      have HRe:Hid (R=.ok acc):=by
       show R=_
       rw[HRk.out]
       unfold tkE
       rw[if_pos (List.drop_eq_nil_of_le (by rw[← HN.out];omega))]
      obtain⟨f0,f1,f2,f3,f4,f5⟩:=HDJ.out.fcells
      have HE:=Zh (HDJ.out.fset (Zi 0) (Zi 0) (Zi 0))
      have HNt:Hid (nt=acc.length):=HF.out.2.2
      have HFP:Hid (w.heap.size≤P+1):=by have h1:=HDJ.out.lo;have h2:=HDJ.out.fp;show _≤_;omega
      clear hend HRk HF HDJ
      go_wp2_with fail
      obtain⟨s0,s1,s2,hb,ho⟩:=HE.out
      refine bodyPost_ret (v:=.tuple #[.slice a nt c,.agg #[Zi 0,Zi 0,Zi 0]]) (by simp[results,Tryz.results9,go_sem,s0,s1,s2]) rfl ?_
      rw[HRe.out]
      refine⟨a,c,by rw[HNt.out],?_,hb⟩
      rw[HNt.out] at ho
      exact ownsRow_mono ho HFP.out
     ·have hb1:((j:Int) == (n:Int))=false:=by simp;omega
      have hjl:j < L.length:=by rw[← HN.out];omega
      have hjS:j < (S L).size:=by rw[hsz];omega
      have HD0:Hid (L.drop j≠[]):=by
       show _≠_
       intro e
       have:=congrArg List.length e
       rw[List.length_drop] at this
       simp only[List.length_nil] at this
       omega
      obtain⟨d,hd⟩:=nm (L[j].toNat)
      have hget:((S L)[j]'hjS).toNat=d:=by rw[hd];exact congrArg UInt8.toNat (S_get L j hjS)
      have hd255:d≤255:=by have:=UInt8.toNat_lt L[j];omega
      have hc0:c0 (L.drop j)=d:=by rw[List.drop_eq_getElem_cons hjl,hd];rfl
      have HTk:Hid (tokA (L.drop j)=if leC d then .ok (if isOwn ((L.drop j).take (frB woC (L.drop j))) then 2 else 1) ((L.drop j).take (frB woC (L.drop j))) 0
       else if diC d then (if (numO ((L.drop j).take (frB woC (L.drop j)))).2 then .ok 3 ((L.drop j).take (frB woC (L.drop j))) (numO ((L.drop j).take (frB woC (L.drop j)))).1 else .er 41)
       else if sgN (L.drop j)=0 then .er 180 else .ok 4 ((L.drop j).take (sgN (L.drop j))) 0):=by
       show _=_
       unfold tokA
       rw[hc0,HPre.out]
       simp only[Bool.false_eq_true,if_false]
      obtain⟨B,hB⟩:=nm (wr.heap.size)
      obtain⟨W1,hW1⟩:=nm (wr.alloc (.cells #[Zi 0,Ze,Zi 0,Zi (ql:Int),Zi (qc:Int)] 83))
      have HX1:Hid (DB w F P L W1 j (.slice a nt c) acc B (Zi 0) (Ze) (Zi 0) (Zi (ql:Int)) (Zi (qc:Int))):=by
       have h:=HDJ.out.box (Zi 0) (Ze) (Zi 0) (Zi (ql:Int)) (Zi (qc:Int))
       rw[← hW1,← hB] at h
       exact h
      have HWo:Hid (∀U,Calls Tryz.prog 27 #[.int .u8 (d:Int)] U fun e w'=>e=.returned (.bool (woC d))∧w'=U):=fun U=>rwordly_any U d hd255
      have HDg:Hid (∀U,Calls Tryz.prog 29 #[.int .u8 (d:Int)] U fun e w'=>e=.returned (.bool (diC d))∧w'=U):=fun U=>rdigit_any U d hd255
      have HSg2:Hid (∀U,Calls Tryz.prog 31 #[.string (S L),Zi (j:Int)] U fun e w'=>e=.returned (.string (S ((L.drop j).take (sgN (L.drop j)))))∧Below U.heap.size U w'):=fun U=>HSg.out U j hjl
      have HDd:=Zh hd
      clear hend hd hc0 HOv HSg
      go_upto_block 4 with fail
      rw[← hW1,← hB]
      clear hW1 hB
      go_cut[] from 19 to 125 (fun wx=>∃(kd:Nat) (t:List UInt8) (nv:Int),Hid (DB w F P L wx j (.slice a nt c) acc B (Zi (kd:Int)) (.string (S t)) (Zi nv) (Zi (ql:Int)) (Zi (qc:Int)))∧Hid (tokA (L.drop j)=.ok kd t nv))
      case first=>
       by_cases hwo:woC d=true∧d≠95
       ·obtain⟨hw1,hw95⟩:=hwo
        have h95:((d:Int) != 95)=true:=by simp;omega
        clear hw95
        obtain⟨tn,htn⟩:=nm (frB woC (L.drop j))
        have HTn:=Zh htn
        have htle:j+tn≤n:=by have h:=frB_le woC (L.drop j);rw[← htn,List.length_drop] at h;rw[HN.out];omega
        have hfp:0 < tn:=by rw[htn,List.drop_eq_getElem_cons hjl];exact frB_pos (by have h:=hw1;rw[HDd.out] at h;exact h)
        have HWq:Hid (∀q (hq:q < L.length) U,Calls Tryz.prog 27 #[.int .u8 (L[q].toNat:Int)] U fun e w'=>e=.returned (.bool (woC L[q].toNat))∧w'=U):=fun q hq U=>rwordly_any U L[q].toNat (by have:=UInt8.toNat_lt L[q];omega)
        have HW1:=Zh hw1
        rw[hw1] at HWo
        clear htn hw1
        go_upto_block 5 with (first | (go_at_call 27;refine (HWo.out _).mono ?_;rintro e9 wE ⟨rfl,hwE⟩;have hwE':=hwE.symm;subst hwE';clear hwE) | fail)
        go_cut[11] from 19 to 125 (fun x wx=>x=Zi ((j+tn:Nat):Int)∧wx=W1)
        case first=>
         go_wp2_with fail
         go_loopw[11] (fun x wq=>∃(q:Nat),j≤q∧q≤n∧x=Zi (q:Int)∧wq=W1∧Hid (∀i (hi:i < L.length),j≤i→i < q→woC L[i].toNat=true)) (fun x _=>n - (intOf x).toNat)
         case atStart=>exact⟨j,Nat.le_refl _,by omega,rfl,rfl,fun i hi h1 h2=>by omega⟩
         case round=>
          obtain⟨q,hjq,hqn,rfl,hwe,HJ⟩:=hrel
          subst hwe
          have HFr:Hid ((∀h:q < L.length,woC L[q].toNat=false)→((q:Nat):Int)=((j+tn:Nat):Int)):=Zh fun HEnd=>by
           have h9:frB woC (L.drop j)=q - j:=frB_of woC (L.drop j) (q - j) (by rw[List.length_drop,← HN.out];omega) (fun i hi hlt=>by
            rw[List.length_drop] at hi
            have h:=HJ.out (j+i) (by omega) (by omega) (by omega)
            simp only[List.getElem_drop]
            exact h) (fun h=>by
            rw[List.length_drop] at h
            simp only[List.getElem_drop,show j+(q - j)=q by omega]
            exact HEnd (by omega))
           have h8:=HTn.out
           omega
          by_cases hlt:q < n
          ·have hqI:(q:Int) < (n:Int):=by omega
           have hql:q < L.length:=by rw[← HN.out];exact hlt
           have hqS:q < (S L).size:=by rw[hsz];exact hlt
           obtain⟨x,hx⟩:=nm (L[q].toNat)
           have HWq2:Hid (∀U:World,Calls Tryz.prog 27 #[.int .u8 (x:Int)] U fun e w'=>e=.returned (.bool (woC x))∧w'=U):=by rw[hx];exact HWq.out q hql
           have hgetq:((S L)[q]'hqS).toNat=x:=by rw[hx];exact congrArg UInt8.toNat (S_get L q hqS)
           have HXx:=Zh hx
           clear hx
           generalize hbb:woC x=bb at *
           have HBb:=Zh hbb
           clear hbb
           cases bb with
           | true=>
            have HJ2:Hid (∀i (hi:i < L.length),j≤i→i < q+1→woC L[i].toNat=true):=fun i hi h1 h2=>by
             by_cases h3:i < q
             ·exact HJ.out i hi h1 h3
             ·obtain rfl:i=q:=by omega
              have h9:=HBb.out
              rw[HXx.out] at h9
              exact h9
            clear HJ HBb HFr
            go_wp2_with (first | (go_at_call 27;refine (HWq2.out _).mono ?_;rintro e9 wE ⟨rfl,hwE⟩;have hwE':=hwE.symm;subst hwE';clear hwE) | fail)
            go_roundw
            case rel=>exact⟨q+1,by omega,by omega,by go_num,trivial,HJ2⟩
            case measure=>simp[intOf];omega
           | false=>
            have HEq:=Zh (HFr.out (fun h=>by have h9:=HBb.out;rw[HXx.out] at h9;exact h9))
            clear HBb HXx HFr HJ
            go_wp2_with (first | (go_at_call 27;refine (HWq2.out _).mono ?_;rintro e9 wE ⟨rfl,hwE⟩;have hwE':=hwE.symm;subst hwE';clear hwE) | fail)
            go_meet
            exact⟨congrArg (Value.int .i64) HEq.out,rfl⟩
          ·have hqI:¬(q:Int) < (n:Int):=by omega
           have HEq:=Zh (HFr.out (fun h=>absurd (by rw[HN.out];exact h) hlt))
           clear HFr HJ hlt
           go_wp2_with fail
           go_meet
           exact⟨congrArg (Value.int .i64) HEq.out,rfl⟩
        obtain⟨rfl,rfl⟩:=hcut
        obtain⟨t,ht⟩:=nm ((L.drop j).take tn)
        have HTt:=Zh ht
        have x1:(S L).extract j (j+tn)=S t:=by rw[S_cut,List.drop_take,show j+tn - j=tn by omega,← ht]
        have htl:t.length≤65536:=by rw[ht,List.length_take,List.length_drop];have:=HL.out;omega
        have HOwn:Hid (∀U,Calls Tryz.prog 28 #[.string (S t)] U fun e w'=>e=.returned (.bool (isOwn t))∧Grew U w'):=fun U=>own_any U t
        have HNum:Hid (∀U,Calls Tryz.prog 30 #[.string (S t)] U fun e w'=>e=.returned (.tuple #[Zi (numO t).1,.bool (numO t).2])∧Below U.heap.size U w'):=fun U=>rnumber_any U t htl
        rw[← HTn.out,← ht] at HTk
        have hjqI:(j:Int)≤((j+tn:Nat):Int):=by omega
        have hqnI:((j+tn:Nat):Int)≤(n:Int):=by omega
        have HX2:=Zh (HX1.out.set1 (.string (S t)))
        have HX3:=Zh (HX2.out.set0 (Zi 1))
        obtain⟨⟨k0,k1,k2,k3,k4⟩,g0,g1,g2,g3,g4⟩:=HX1.out.rw.cells
        obtain⟨⟨k5,k6,k7,k8,k9⟩,g5,g6,g7,g8,g9⟩:=HX2.out.rw.cells
        obtain⟨⟨_,e1,_⟩,_⟩:=HX3.out.rw.cells
        have HLd:Hid ((leC d=true∧diC d=false)∨(leC d=false∧diC d=true∧isOwn t=false)):=Zh (by
         have h1:=HW1.out
         cases hle:leC d with
         | true=>
          refine .inl ⟨rfl,?_⟩
          simp only[leC,Bool.or_eq_true,Bool.and_eq_true,decide_eq_true_eq] at hle
          simp[diC]
          omega
         | false=>
          simp only[woC,hle,Bool.false_or,Bool.or_eq_true,decide_eq_true_eq] at h1
          have hdi:diC d=true:=by
           rcases h1 with h1 | h1
           ·exact h1
           ·rw[h1] at h95;cases h95
          exact .inr ⟨rfl,hdi,own_digit (by rw[ht,c0_take hfp,List.drop_eq_getElem_cons hjl];show diC L[j].toNat=true;have h:=hdi;rw[HDd.out] at h;exact h)⟩)
        obtain⟨qn,hqn⟩:∃qn:Nat,qn=j+tn:=⟨_,rfl⟩
        rw[← hqn] at x1 hjqI hqnI ⊢
        clear hqn ht htl hfp HPre HSg2 HDJ HX1 HX2 HTn HTt htle HWq HWo
        go_wp2_with fail
        refine (HOwn.out _).mono ?_
        rintro e9 w4 ⟨rfl,hg4⟩
        have HX4:=Zh (HX3.out.below hg4.below)
        obtain⟨⟨r0,r1,r2,r3,r4⟩,t0,t1,t2,t3,t4⟩:=HX4.out.rw.cells
        clear hg4 HX3 HOwn
        rcases HLd.out with ⟨hle,hdi⟩ | ⟨hle,hdi,how⟩
        ·rw[hle] at HTk
         rw[hdi] at HDg
         simp only[if_true] at HTk
         clear hle hdi HNum
         cases hob:isOwn t with
         | true=>
          have HTok:Hid (tokA (L.drop j)=.ok 2 t 0):=by show _=_;rw[HTk.out,hob];rfl
          have HX5:=Zh (HX4.out.set0 (Zi 2))
          clear HTk hob HLd
          go_wp2_with (first | (go_at_call 29;refine (HDg.out _).mono ?_;rintro e9 wE ⟨rfl,hwE⟩;have hwE':=hwE.symm;subst hwE';clear hwE) | fail)
          go_meet
          exact⟨2,t,0,HX5,HTok⟩
         | false=>
          have HTok:Hid (tokA (L.drop j)=.ok 1 t 0):=by show _=_;rw[HTk.out,hob];rfl
          clear HTk hob HLd
          go_wp2_with (first | (go_at_call 29;refine (HDg.out _).mono ?_;rintro e9 wE ⟨rfl,hwE⟩;have hwE':=hwE.symm;subst hwE';clear hwE) | fail)
          go_meet
          exact⟨1,t,0,HX4,HTok⟩
        ·rw[hle,hdi] at HTk
         rw[hdi] at HDg
         simp only[Bool.false_eq_true,if_false,if_true] at HTk
         rw[how]
         clear hle hdi how HLd
         obtain⟨⟨nv,good⟩,hnv⟩:∃q,q=numO t:=⟨_,rfl⟩
         rw[← hnv] at HTk HNum
         simp only at HTk HNum
         clear hnv
         go_wp2_with (first | (go_at_call 29;refine (HDg.out _).mono ?_;rintro e9 wE ⟨rfl,hwE⟩;have hwE':=hwE.symm;subst hwE';clear hwE) | fail)
         refine (HNum.out _).mono ?_
         rintro e9 w5 ⟨rfl,hb5⟩
         have HX5:=Zh (HX4.out.below hb5)
         obtain⟨⟨y0,y1,y2,y3,y4⟩,z0,z1,z2,z3,z4⟩:=HX5.out.rw.cells
         clear hb5 HX4 HNum
         cases good with
         | true=>
          have HTok:Hid (tokA (L.drop j)=.ok 3 t nv):=by show _=_;rw[HTk.out];rfl
          have HX6:=Zh (HX5.out.set0 (Zi 3))
          have HX7:=Zh (HX6.out.set2 (Zi nv))
          obtain⟨⟨n0,n1,n2,n3,n4⟩,m0,m1,m2,m3,m4⟩:=HX6.out.rw.cells
          clear HX5 HX6 HTk
          go_wp2_with fail
          go_meet
          exact⟨3,t,nv,HX7,HTok⟩
         | false=>
          have HRe:Hid (R=.er (ql,qc) 41):=by
           show R=_
           rw[HRk.out]
           unfold tkE
           rw[if_neg HD0.out,HTk.out,HSp.out]
           rfl
          clear HTk
          have HDX:Hid (DI w F P L _ j (.slice a nt c) acc):=HX5.out.di
          obtain⟨p2,p3⟩:=HCp.out _ HX5.out.di
          have HFt:Hid (∀U,Calls Tryz.prog 26 #[.agg #[Zi (ql:Int),Zi (qc:Int)],Zi 41] U fun e w'=>e=.returned (.agg #[Zi (ql:Int),Zi (qc:Int),Zi 41])∧Below U.heap.size U w'):=fun U=>rfault_any U ql qc 41
          go_wp2_with fail
          refine (HFt.out _).mono ?_
          rintro e9 w9 ⟨rfl,hb9⟩
          have HD9:=Zh (HDX.out.below hb9)
          obtain⟨f0,f1,f2,f3,f4,f5⟩:=HD9.out.fcells
          have HE:=Zh (HD9.out.fset (Zi (ql:Int)) (Zi (qc:Int)) (Zi 41))
          clear hb9 HFt
          go_wp2_with fail
          obtain⟨s0,s1,s2,hb,_⟩:=HE.out
          exact bodyPost_ret (v:=.tuple #[Zn,.agg #[Zi (ql:Int),Zi (qc:Int),Zi 41]]) (by simp[results,Tryz.results9,go_sem,s0,s1,s2]) rfl (by rw[HRe.out];exact⟨rfl,hb⟩)
       ·have hle:leC d=false:=by
         cases h:leC d with
         | false=>rfl
         | true=>
          exfalso
          refine hwo ⟨woC_of_le h,fun e=>?_⟩
          rw[e] at h
          revert h
          decide
        have hdi:diC d=false:=by
         cases h:diC d with
         | false=>rfl
         | true=>
          exfalso
          refine hwo ⟨woC_of_di h,fun e=>?_⟩
          rw[e] at h
          revert h
          decide
        rw[hle,hdi] at HTk
        have HTk2:Hid (tokA (L.drop j)=if sgN (L.drop j)=0 then .er 180 else .ok 4 ((L.drop j).take (sgN (L.drop j))) 0):=by show _=_;rw[HTk.out];simp
        have hwd:(woC d=false)∨(woC d=true∧((d:Int) != 95)=false):=by
         cases h:woC d with
         | false=>exact .inl rfl
         | true=>
          refine .inr ⟨rfl,?_⟩
          have h95:d=95:=Decidable.byContradiction fun h2=>hwo ⟨h,h2⟩
          simp;omega
        have h4:=sgN_le (L.drop j)
        obtain⟨t,ht⟩:=nm ((L.drop j).take (sgN (L.drop j)))
        rw[← ht] at HSg2 HTk2
        have hts:=S_toList t
        have htl:t.length=sgN (L.drop j):=by rw[ht,List.length_take];omega
        rw[← htl] at HTk2
        have HS1:Hid (DB w F P L W1 j (.slice a nt c) acc B (Zi 0) (Ze) (Zi 0) (Zi (ql:Int)) (Zi (qc:Int))):=HX1.out
        clear HTk hle hdi ht h4 htl hwo HX1 HDg HPre HDJ
        have hwq:(∀U,Calls Tryz.prog 27 #[.int .u8 (d:Int)] U fun e w'=>e=.returned (.bool (woC d))∧w'=U):=HWo.out
        have HR0:Hid (t.length=0→R=.er (ql,qc) 180):=Zh fun h0=>by
         rw[HRk.out]
         unfold tkE
         rw[if_neg HD0.out,HTk2.out,if_pos h0,HSp.out]
        have HR4:Hid (¬t.length=0→tokA (L.drop j)=.ok 4 t 0):=Zh fun h0=>by rw[HTk2.out,if_neg h0]
        have HQ0:Hid (((S t).toList == [])=decide (t.length=0)):=Zh (by rw[hts];cases t <;> rfl)
        clear hts HTk2 hwq
        rcases hwd with hwd | ⟨hwd,h95⟩
        all_goals
         rw[hwd] at HWo
         clear hwd
         go_wp2_with (first | (go_at_call 27;refine (HWo.out _).mono ?_;rintro e9 wE ⟨rfl,hwE⟩;have hwE':=hwE.symm;subst hwE';clear hwE) | fail)
         refine (HSg2.out _).mono ?_
         rintro e9 w3 ⟨rfl,hb3⟩
         have HX3:=Zh (HS1.out.below hb3)
         have HX4:=Zh (HX3.out.set1 (.string (S t)))
         have HX5:=Zh (HX4.out.set0 (Zi 4))
         obtain⟨⟨k0,k1,k2,k3,k4⟩,g0,g1,g2,g3,g4⟩:=HX3.out.rw.cells
         obtain⟨⟨k5,k6,k7,k8,k9⟩,g5,g6,g7,g8,g9⟩:=HX4.out.rw.cells
         obtain⟨⟨_,e1,_⟩,_⟩:=HX5.out.rw.cells
         clear hb3 HS1 HX3 HX4 HSg2 HWo
         by_cases h0:t.length=0
         ·have hq:((S t).toList == [])=true:=by rw[HQ0.out,decide_eq_true h0]
          have HRe:=Zh (HR0.out h0)
          clear h0
          have HDX:Hid (DI w F P L _ j (.slice a nt c) acc):=HX5.out.di
          obtain⟨p2,p3⟩:=HCp.out _ HX5.out.di
          have HFt:Hid (∀U,Calls Tryz.prog 26 #[.agg #[Zi (ql:Int),Zi (qc:Int)],Zi 180] U fun e w'=>e=.returned (.agg #[Zi (ql:Int),Zi (qc:Int),Zi 180])∧Below U.heap.size U w'):=fun U=>rfault_any U ql qc 180
          go_wp2_with fail
          refine (HFt.out _).mono ?_
          rintro e9 w9 ⟨rfl,hb9⟩
          have HD9:=Zh (HDX.out.below hb9)
          obtain⟨f0,f1,f2,f3,f4,f5⟩:=HD9.out.fcells
          have HE:=Zh (HD9.out.fset (Zi (ql:Int)) (Zi (qc:Int)) (Zi 180))
          clear hb9 HFt
          go_wp2_with fail
          obtain⟨s0,s1,s2,hb,_⟩:=HE.out
          exact bodyPost_ret (v:=.tuple #[Zn,.agg #[Zi (ql:Int),Zi (qc:Int),Zi 180]]) (by simp[results,Tryz.results9,go_sem,s0,s1,s2]) rfl (by rw[HRe.out];exact⟨rfl,hb⟩)
         ·have hq:((S t).toList == [])=false:=by rw[HQ0.out,decide_eq_false h0]
          have HTok:=Zh (HR4.out h0)
          clear h0
          go_wp2_with fail
          go_meet
          exact⟨4,t,0,HX5,HTok⟩
      obtain⟨kd,t,nv,HX,HTok⟩:=hcut
      obtain⟨kz,hkz⟩:∃kz:Int,kz=(kd:Int):=⟨_,rfl⟩
      rw[← hkz] at HX
      obtain⟨tn,htn⟩:=nm (t.length)
      have hst:(S t).size=tn:=by rw[S_size,htn]
      have HTn:=Zh htn
      have HKz:=Zh hkz
      clear htn hkz HPre HSg2 HDg HWo HX1 HDJ HTk
      obtain⟨WX,hWX⟩:=nm (wc)
      rw[← hWX] at HX ⊢
      clear hWX
      obtain⟨⟨d0,d1,d2,d3,d4⟩,_⟩:=HX.out.rw.cells
      have hOw:=HX.out.di.own
      unfold OwnT at hOw
      rw[← HF.out.2.2] at hOw
      have HOw:=Zh hOw
      clear hOw
      have hnt9:nt≤65536:=by have h1:=HF.out;have h2:=HL.out;omega
      have hsz5:=blk_lt HX.out.di.pb
      obtain⟨i0,ii,ie⟩:=Option.map_eq_some_iff.1 info_tok
      simp only[Prod.mk.injEq] at ie
      obtain⟨iz0,iz1,iz2⟩:=ie
      have HPos2:=Zh (tokA_pos HD0.out HTok.out)
      have hjt:j+tn≤n:=by have h4:=HPos2.out.2.1;have h5:=HTn.out;have h6:=HN.out;rw[List.length_drop] at h4;omega
      have htp:0 < tn:=by have h4:=HPos2.out.1;have h5:=HTn.out;omega
      have hjtI:(j:Int)+(tn:Int)≤65536:=by omega
      have hwj:IntKind.i64.wrap ((j:Int)+(tn:Int))=(j:Int)+(tn:Int):=by rw[IntKind.wrap_i64];omega
      go_wp2_with (first
       | (at_builtin;refine wpList_append_gen rfl _ _ 38 83 i0 (.agg #[Zi 0,Ze,Zi 0,Zi 0,Zi 0]) 5 48 Tryz.underlying38 ii iz0 iz1 iz2 rfl (by decide) rfl (P+1) (.slice a nt c) nt (tkc acc) rfl (World.ownsRow.alloc HOw.out _) ⟨WX.heap.size,0,none⟩ 1 1 [Zi kz,.string (S t),Zi nv,Zi (ql:Int),Zi (qc:Int)] rfl rfl (src_at WX _ _) (by intro u hu;simp at hu;rcases hu with rfl | rfl | rfl | rfl | rfl <;> rfl) (by unfold maxLen;omega) (by omega) (Nat.le_trans hsz5 (bel_al WX _).size) ?_;intro v7 w7 h1 h2;have e1:w7.cell? ⟨B,1,none⟩=some (.string (S t)):=(cell_blk (h2.block B (Nat.lt_of_lt_of_le (blk_lt HX.out.rw) (bel_al WX _).size) (fun e=>by have h9:=HX.out.ob B e.symm;omega)) 1).trans ((cell_blk ((bel_al WX _).block B (blk_lt HX.out.rw)) 1).trans d1))
       | fail)
      obtain⟨a7,c7,hv7,_⟩:=own_slice h1
      subst hv7
      have HF7:Hid (∃f acc,DI w F P L w7 j (.slice a7 (nt+1) c7) acc∧R=tkR L f (j+tn) acc∧L.length+1≤j+tn+f∧acc.length≤j+tn∧nt+1=acc.length):=by
       have h3:=HF.out
       have h4:=HPos2.out
       have h5:=HTn.out
       have h6:=HKJ.out
       rw[List.length_drop] at h4
       refine⟨f',acc ++ [(kd,t,nv,ql,qc)],(HX.out.di.below (bel_al WX _)).app ?_ h2,?_,by omega,?_,?_⟩
       ·unfold OwnT
        rw[tkc_app,tkc_one,List.length_append,← h3.2.2]
        rw[HKz.out] at h1
        exact h1
       ·rw[HRk.out]
        unfold tkE
        rw[if_neg HD0.out,HTok.out,HSp.out]
        show tkR L f' (j+t.length) _=_
        rw[h5]
       ·rw[List.length_append,List.length_singleton];omega
       ·rw[List.length_append,List.length_singleton,← h3.2.2]
      clear h1 h2
      go_wp2_with fail
      go_roundw
      case rel=>exact⟨a7,nt+1,c7,j,j+tn,rfl,rfl,by go_num,by omega,by omega,HF7.out⟩
      case measure=>
       have hkj9:=HKJ.out
       simp[intOf];omega
structure SpI (w U:World) (L:List UInt8) (j:Nat):Prop where
 r:U.heap[w.heap.size]? = some (.cells #[Zi 0,Zi 0] 43 (0,0))
 p:U.heap[w.heap.size+1]? = some (.cells #[Zi ((spO L j).1:Int),Zi ((spO L j).2:Int)] 43 (0,0))
 bel:Below w.heap.size w U
theorem SpI.pset {w U U':World} {L:List UInt8} {j j':Nat} (h:SpI w U L j) (ht:T1 (w.heap.size+1) U U') (hp:U'.heap[w.heap.size+1]? = some (.cells #[Zi ((spO L j').1:Int),Zi ((spO L j').2:Int)] 43 (0,0))):SpI w U' L j':=
 ⟨(ht.block _ (blk_lt h.r) (by omega)).trans h.r,hp,⟨ht.os.trans h.bel.os,ht.tape.trans h.bel.tape,ht.output.trans h.bel.output,Nat.le_trans h.bel.size ht.size,fun k hk=>(ht.block k (Nat.lt_of_lt_of_le hk h.bel.size) (by omega)).trans (h.bel.block k hk)⟩⟩
theorem dspotT_any (w:World) (L:List UInt8) (hL:L.length≤65536):Calls Tryz.prog 10 #[.string (S L),Zi (L.length:Int)] w fun e w'=>e=.returned (.agg #[Zi ((spL (1,1) L).1:Int),Zi ((spL (1,1) L).2:Int)])∧Below w.heap.size w w':=by
 obtain⟨n,hn⟩:=nm (L.length)
 have hsz:(S L).size=n:=by rw[S_size,hn]
 have hn9:n≤65536:=by omega
 obtain⟨P,hP⟩:=nm (w.heap.size+1)
 obtain⟨W0,hW0⟩:=nm ((w.alloc (.cells #[Zi 0,Zi 0] 43)).alloc (.cells #[Zi 1,Zi 1] 43))
 have HI:Hid (SpI w W0 L 0):=Zh (by
  rw[hW0]
  exact⟨(heap_alloc_old _ _ (by simp)).trans (heap_alloc_new _ _ rfl),heap_alloc_new _ _ (by simp),((Below.refl _ _).alloc (Nat.le_refl _) _).alloc (by simp) _⟩)
 have HN:=Zh hn
 have HPp:=Zh hP
 rw[← hn]
 obtain⟨sl,hsl⟩:=nm (S L)
 have hget0:Hid (∀(j:Nat) (h:j < sl.size) (h2:j < L.length),(sl[j]'h).toNat=L[j].toNat):=Zh (by subst hsl;exact fun j h h2=>congrArg UInt8.toNat (S_get L j h))
 rw[← hsl] at hsz ⊢
 clear hn hL hsl
 go_enter Tryz.func10,Tryz.ntmps10
 go_upto_region 2 with fail
 rw[← hW0,← hP]
 clear hW0 hP
 go_wp2_with fail
 go_loopw[6] (fun y wq=>∃(j:Nat),j≤n∧y=Zi (j:Int)∧Hid (SpI w wq L j)) (fun y _=>n - (intOf y).toNat)
 case atStart=>exact⟨0,Nat.zero_le _,rfl,HI⟩
 case round=>
  clear HI
  obtain⟨j,hje,rfl,HDJ⟩:=hrel
  by_cases hlt:j < n
  ·have hjI:(j:Int) < (n:Int):=by omega
   have hjl:j < L.length:=by rw[← HN.out];omega
   have hjS:j < sl.size:=by rw[hsz];omega
   obtain⟨d,hd⟩:=nm (L[j].toNat)
   have hget:(sl[j]'hjS).toNat=d:=by rw[hd];exact hget0.out j hjS hjl
   have HPb:Hid (wr.heap[P]? = some (.cells #[Zi ((spO L j).1:Int),Zi ((spO L j).2:Int)] 43 (0,0))):=Zh (by rw[HPp.out];exact HDJ.out.p)
   have hsp:=spO_le L j
   have HNx:Hid (spO L (j+1)=if d=10 then ((spO L j).1+1,1) else ((spO L j).1,(spO L j).2+1)):=by show _=_;rw[hd];exact spO_next L j hjl
   obtain⟨⟨ql,qc⟩,hq⟩:∃q,q=spO L j:=⟨_,rfl⟩
   rw[← hq] at hsp HNx HPb
   simp only at hsp HNx HPb
   have p0:wr.cell? ⟨P,0,none⟩=some (Zi (ql:Int)):=by simp[World.cell?,HPb.out]
   have p1:wr.cell? ⟨P,1,none⟩=some (Zi (qc:Int)):=by simp[World.cell?,HPb.out]
   have p2:=frozen_of_row wr P 0 _ _ HPb.out
   have p3:=frozen_of_row wr P 1 _ _ HPb.out
   have hqlI:(ql:Int)≤70000:=by have:=HN.out;omega
   have hqcI:(qc:Int)≤70000:=by have:=HN.out;omega
   clear hd hq hsp
   by_cases h10:d=10
   ·have hbI:((d:Int) == 10)=true:=by simp;omega
    have HNx2:Hid (spO L (j+1)=(ql+1,1)):=by show _=_;rw[HNx.out,if_pos h10]
    have t1:=pset1 HPb.out (Zi ((qc:Int)+1))
    have t2:=pset0 t1.2 (Zi ((ql:Int)+1))
    have t3:=pset1 t2.2 (Zi 1)
    have HD3:Hid (SpI w (((wr.setCell ⟨P,1,none⟩ (Zi ((qc:Int)+1))).setCell ⟨P,0,none⟩ (Zi ((ql:Int)+1))).setCell ⟨P,1,none⟩ (Zi 1)) L (j+1)):=Zh (HDJ.out.pset (by rw[← HPp.out];exact (t1.1.trans t2.1).trans t3.1) (by rw[HNx2.out,← HPp.out];exact t3.2))
    have g1:(wr.setCell ⟨P,1,none⟩ (Zi ((qc:Int)+1))).cell? ⟨P,0,none⟩=some (Zi (ql:Int)):=by simp[World.cell?,t1.2]
    have g2:(wr.setCell ⟨P,1,none⟩ (Zi ((qc:Int)+1))).frozen? ⟨P,0,none⟩=false:=frozen_of_row _ P 0 _ _ t1.2
    have g3:((wr.setCell ⟨P,1,none⟩ (Zi ((qc:Int)+1))).setCell ⟨P,0,none⟩ (Zi ((ql:Int)+1))).frozen? ⟨P,1,none⟩=false:=frozen_of_row _ P 1 _ _ t2.2
    have g4:((wr.setCell ⟨P,1,none⟩ (Zi ((qc:Int)+1))).setCell ⟨P,0,none⟩ (Zi ((ql:Int)+1))).cell? ⟨P,1,none⟩=some (Zi ((qc:Int)+1)):=by simp[World.cell?,t2.2]
    clear t1 t2 t3 HNx HNx2 h10 HPb HDJ
    go_wp2_with fail
    go_roundw
    case rel=>exact⟨j+1,by omega,by go_num,HD3⟩
    case measure=>simp[intOf];omega
   ·have hbI:((d:Int) == 10)=false:=by simp;omega
    have HNx2:Hid (spO L (j+1)=(ql,qc+1)):=by show _=_;rw[HNx.out,if_neg h10]
    have t1:=pset1 HPb.out (Zi ((qc:Int)+1))
    have HD3:Hid (SpI w (wr.setCell ⟨P,1,none⟩ (Zi ((qc:Int)+1))) L (j+1)):=Zh (HDJ.out.pset (by rw[← HPp.out];exact t1.1) (by rw[HNx2.out,← HPp.out];exact t1.2))
    clear t1 HNx HNx2 h10 HPb HDJ
    go_wp2_with fail
    go_roundw
    case rel=>exact⟨j+1,by omega,by go_num,HD3⟩
    case measure=>simp[intOf];omega
  ·have hjI:¬(j:Int) < (n:Int):=by omega
   have hjn:j=L.length:=by have:=HN.out;omega
   have hsp:spO L j=spL (1,1) L:=by show spL (1,1) (L.take j)=_;rw[hjn,List.take_length]
   have HI:=HDJ.out
   obtain⟨⟨ql,qc⟩,hq⟩:∃q,q=spO L j:=⟨_,rfl⟩
   have hp:=HI.p
   rw[← HPp.out,← hq] at hp
   have hr:=HI.r
   have HFin:Hid (spL (1,1) L=(ql,qc)):=Zh (by rw[← hsp,hq])
   simp only at hp
   have p0:wr.cell? ⟨P,0,none⟩=some (Zi (ql:Int)):=by simp[World.cell?,hp]
   have p1:wr.cell? ⟨P,1,none⟩=some (Zi (qc:Int)):=by simp[World.cell?,hp]
   have r0:wr.cell? ⟨w.heap.size,0,none⟩=some (Zi 0):=by simp[World.cell?,hr]
   have r1:wr.cell? ⟨w.heap.size,1,none⟩=some (Zi 0):=by simp[World.cell?,hr]
   have f0:=frozen_of_row wr w.heap.size 0 _ _ hr
   have f1:=frozen_of_row wr w.heap.size 1 _ _ hr
   have HR:Hid ((((wr.setCell ⟨w.heap.size,0,none⟩ (Zi (ql:Int))).setCell ⟨w.heap.size,1,none⟩ (Zi (qc:Int))).heap[w.heap.size]? = some (.cells #[Zi (ql:Int),Zi (qc:Int)] 43 (0,0)))∧Below w.heap.size w ((wr.setCell ⟨w.heap.size,0,none⟩ (Zi (ql:Int))).setCell ⟨w.heap.size,1,none⟩ (Zi (qc:Int)))):=Zh ⟨heap_setCell_same _ _ 1 _ _ _ (heap_setCell_same _ _ 0 _ _ _ hr),(HI.bel.setCell (p:=⟨w.heap.size,0,none⟩) (Nat.le_refl _) _).setCell (p:=⟨w.heap.size,1,none⟩) (Nat.le_refl _) _⟩
   clear HI hp hr hq hsp hjn HDJ hlt hje
   go_wp2_with fail
   have k0:((wr.setCell ⟨w.heap.size,0,none⟩ (Zi (ql:Int))).setCell ⟨w.heap.size,1,none⟩ (Zi (qc:Int))).cell? ⟨w.heap.size,0,none⟩=some (Zi (ql:Int)):=by simp[World.cell?,HR.out.1]
   have k1:((wr.setCell ⟨w.heap.size,0,none⟩ (Zi (ql:Int))).setCell ⟨w.heap.size,1,none⟩ (Zi (qc:Int))).cell? ⟨w.heap.size,1,none⟩=some (Zi (qc:Int)):=by simp[World.cell?,HR.out.1]
   exact bodyPost_ret (v:=.agg #[Zi (ql:Int),Zi (qc:Int)]) (by simp[results,Tryz.results10,go_sem,k0,k1]) rfl ⟨by rw[HFin.out],HR.out.2⟩
def CatP (b1 b2:Nat) (p:Nat × Nat) (x:Nat) (w w':World):Prop:=RowS w' b1 (Zn) (Zn)∧(∃ev,w'.heap[b2]? = some (.cells #[ev] 31 (0,0))∧ErrAt w' ev p.1 p.2 (x:Int))∧(∀k,k < w.heap.size→k≠b1→k≠b2→w'.heap[k]? = w.heap[k]?)∧w.heap.size≤w'.heap.size∧w'.os=w.os∧w'.tape=w.tape∧w'.output=w.output
theorem catchS_idle (p1 p2:Addr) (w:World) :
  CallsD Tryz.prog 13 #[.pointer (some p1),.pointer (some p2)] .returning w fun e u' w'=>e=.returned (.tuple #[])∧u'=.returning∧w'=w:=by
 refine callsD_of_wpS Tryz.func13 rfl fun c₀ cs hu=>?_
 apply wpS_seq
 apply wpS_region
 simp[wpOpsS,go_sem,recoverD,hu,Tryz.ntmps13,Exit.thenS]
 apply wpS_seq
 apply wpS_region
 simp[wpOpsS,go_sem,Exit.thenS]
 refine wpS_cond (t:=false) (by simp[Act.eval,Array.replicate]) ?_
 simp only[Bool.false_eq_true,if_false]
 refine wpS_of_wp (wp_skip ?_)
 cases c₀
 simp_all [bodyPostS,results,Tryz.results13]
theorem catchS_fault (b1 b2:Nat) (p:Nat × Nat) (x:Nat) (older:List PanicEntry) (w:World) (x1 x2 x3:Value) (h1:RowS w b1 x1 x2) (h2:w.heap[b2]? = some (.cells #[x3] 31 (0,0))) (d12:b1≠b2) :
  CallsD Tryz.prog 13 #[Zp b1,Zp b2] (.panicking ({ v:=.iface 52 (.agg #[Zi (p.1:Int),Zi (p.2:Int),Zi (x:Int)]),recovered:=false } :: older)) w fun e' u' w'=>
   e'=.returned (.tuple #[])∧u'=.panicking ({ v:=.iface 52 (.agg #[Zi (p.1:Int),Zi (p.2:Int),Zi (x:Int)]),recovered:=true } :: older)∧
    CatP b1 b2 p x w w':=by
 obtain⟨pl,pc⟩:=p
 refine callsD_of_wpS Tryz.func13 rfl fun c₀ cs hu=>?_
 apply wpS_seq
 apply wpS_region
 simp[wpOpsS,go_sem,recoverD,hu,Tryz.ntmps13,Exit.thenS]
 apply wpS_seq
 apply wpS_region
 simp[wpOpsS,go_sem,Exit.thenS]
 refine wpS_cond (t:=true) (by simp[Act.eval,Array.replicate]) ?_
 simp only[if_true]
 refine wpS_of_wp ?_
 have hta:∀(w:World),(Instr.typeAssert (.iface 52 (.agg #[Zi (pl:Int),Zi (pc:Int),Zi (x:Int)])) 20 52 false).run Tryz.prog w=.ok (.agg #[Zi (pl:Int),Zi (pc:Int),Zi (x:Int)]) w:=fun _=>by kernel_rfl
 have hrep:Array.replicate 13 undef = #[undef,undef,undef,undef,undef,undef,undef,undef,undef,undef,undef,undef,undef]:=rfl
 simp only[hrep,List.setIfInBounds_toArray,List.set_cons_zero,List.set_cons_succ,List.append_toArray,List.cons_append,List.nil_append]
 clear hrep
 obtain⟨W1,hW1⟩:=nm (w.alloc (.cells #[Zi (pl:Int),Zi (pc:Int),Zi (x:Int)] 52))
 have hb1:Below w.heap.size w W1:=by rw[hW1];exact bel_al _ _
 have y0:W1.cell? ⟨w.heap.size,0,none⟩=some (Zi (pl:Int)):=by rw[hW1];exact cellN _ _ _ 0 _ rfl
 have y1:W1.cell? ⟨w.heap.size,1,none⟩=some (Zi (pc:Int)):=by rw[hW1];exact cellN _ _ _ 1 _ rfl
 have y2:W1.cell? ⟨w.heap.size,2,none⟩=some (Zi (x:Int)):=by rw[hW1];exact cellN _ _ _ 2 _ rfl
 have HWr:=Zh (wrongAtS_any W1 pl pc (x:Int))
 have HB:=Zh hb1
 have H1:=Zh h1
 have H2:=Zh h2
 have HD:Hid (b1≠b2):=Zh d12
 clear h1 h2 d12 hb1
 go_upto_region 3 with fail
 rw[← hW1]
 clear hW1 hta
 go_wp2_with fail
 refine HWr.out.mono ?_
 clear HWr y0 y1 y2
 rintro e w2 ⟨ev,rfl,he,hb2⟩
 have hb:=HB.out.trans (hb2.mono HB.out.size)
 have g1:=H1.out.kept hb
 have g2:w2.heap[b2]? = some (.cells #[x3] 31 (0,0)):=(hb.block b2 (blk_lt H2.out)).trans H2.out
 have hd:=HD.out
 obtain⟨t,pv,rfl⟩:∃t pv,ev=.iface t pv:=by
  obtain⟨b,e,_⟩:=he
  exact⟨_,_,e⟩
 obtain⟨w5,hw5⟩:=nm (((w2.setCell ⟨b1,0,none⟩ (Zn)).setCell ⟨b1,1,none⟩ (Zn)).setCell ⟨b2,0,none⟩ (.iface t pv))
 have k1:RowS (w2.setCell ⟨b1,0,none⟩ (Zn)) b1 (Zn) x2:=heap_setCell_same _ b1 0 _ _ _ g1
 have k2:RowS ((w2.setCell ⟨b1,0,none⟩ (Zn)).setCell ⟨b1,1,none⟩ (Zn)) b1 (Zn) (Zn):=heap_setCell_same _ b1 1 _ _ _ k1
 have k3:((w2.setCell ⟨b1,0,none⟩ (Zn)).setCell ⟨b1,1,none⟩ (Zn)).heap[b2]? = some (.cells #[x3] 31 (0,0)):=(heap_setCell_other _ _ b2 _ (fun h=>hd h.symm)).trans ((heap_setCell_other _ _ b2 _ (fun h=>hd h.symm)).trans g2)
 have HF:Hid (CatP b1 b2 (pl,pc) x w w5):=Zh (by
  have hoth:∀k,k≠b1→k≠b2→w5.heap[k]? = w2.heap[k]?:=fun k q1 q2=>by
   rw[hw5,heap_setCell_other _ ⟨b2,0,none⟩ _ _ q2,heap_setCell_other _ ⟨b1,1,none⟩ _ _ q1,heap_setCell_other _ ⟨b1,0,none⟩ _ _ q1]
  refine⟨?_,⟨.iface t pv,?_,?_⟩,fun k hk q1 q2=>(hoth k q1 q2).trans (hb.block k hk),?_,?_,?_,?_⟩
  ·rw[hw5];exact (heap_setCell_other _ ⟨b2,0,none⟩ b1 _ hd).trans k2
  ·rw[hw5];exact heap_setCell_same _ b2 0 _ _ _ k3
  ·obtain⟨b,e1,e2⟩:=he
   refine⟨b,e1,(hoth b (fun q=>?_) (fun q=>?_)).trans e2⟩
   ·rw[q] at e2;rw[g1] at e2;simp at e2
   ·rw[q] at e2;rw[g2] at e2;simp at e2
  ·rw[hw5];simpa using hb.size
  ·rw[hw5];exact hb.os
  ·rw[hw5];exact hb.tape
  ·rw[hw5];exact hb.output)
 obtain⟨c0,c1⟩:=g1.cells
 obtain⟨f0,f1⟩:=g1.frz
 obtain⟨_,f11⟩:=k1.frz
 obtain⟨_,c11⟩:=k1.cells
 have c2:((w2.setCell ⟨b1,0,none⟩ (Zn)).setCell ⟨b1,1,none⟩ (Zn)).cell? ⟨b2,0,none⟩=some x3:=by simp[World.cell?,k3]
 have f2:=frozen_of_row _ b2 0 _ _ k3
 clear he hb2 hb g1 g2 k1 k2 k3 HB H1 H2 HD
 go_wp2_with fail
 rw[← hw5]
 clear hw5 c0 c1 f0 f1 f11 c11 c2 f2
 have hcat:=HF.out
 clear HF
 cases c₀
 simp_all +zetaDelta [bodyPostS,results,Tryz.results13]
theorem tokens_any (w:World) (L:List UInt8) (hL:L.length≤65536) (hT:TabsOK w) (hP:PairVar w) (hN:NumVars w) (hM:MLen w):Calls Tryz.prog 12 #[.string (S L)] w fun e w'=>TksPost w (tksA L) e w':=by
 obtain⟨R,hR⟩:=nm (tksA L)
 have HR:=Zh hR
 rw[← hR]
 have hsz:(S L).size≤65536:=by rw[S_size];exact hL
 have HV:Hid (∀U,Below w.heap.size w U→TabsOK U∧PairVar U∧NumVars U∧MLen U):=fun U hU=>⟨hT.kept hU,hP.kept hU,hN.kept hU,hM.kept hU⟩
 have hG:2 < w.heap.size:=by obtain⟨m,hm⟩:=hM;exact cell_lt hm
 have HCl:=Zh (cloneS_any w (S L) (by omega))
 have HSt:Hid (∀U,Calls Tryz.prog 16 #[] U fun e w'=>e=.returned (.agg #[Zi 1,Zi 1])∧Below U.heap.size U w'):=fun U=>start_any U
 have HL:=Zh hL
 clear hR hL hT hP hN hM
 go_enter Tryz.func12,Tryz.ntmps12
 go_wp2_with fail
 refine HCl.out.mono ?_
 rintro e w1 ⟨rfl,hb1⟩
 have HB1:=Zh hb1
 clear hb1 HCl
 go_wp2_with fail
 refine (HSt.out _).mono ?_
 rintro e w2 ⟨rfl,hb2⟩
 have HB2:Hid (Below w.heap.size w w2):=HB1.out.trans (hb2.mono HB1.out.size)
 clear hb2 HB1 HSt
 go_wp2_with fail
 obtain⟨sb,hsb⟩:=nm (w2.heap.size)
 obtain⟨W0,hW0⟩:=nm (w2.alloc (.cells #[.string (S L),Zi 1,Zi 1] 96))
 have HT0:Hid (TI w sb L W0 0 (Zn) []):=by
  refine⟨?_,OwnT.nil _ _,?_,?_⟩
  ·rw[hW0,hsb]
   exact heap_alloc_new _ _ rfl
  ·rw[hW0]
   exact HB2.out.trans ((bel_al w2 _).mono HB2.out.size)
  ·rw[hsb];exact HB2.out.size
 have hGs:2≠sb:=by have:=HB2.out.size;omega
 have HSk:Hid (∀U k av acc,TI w sb L U k av acc→k≤L.length→Calls Tryz.prog 39 #[Zp sb] U fun e w'=>e=.returned (.tuple #[])∧TI w sb L w' (k+KL (L.drop k)) av acc):=fun U k av acc h hk=>by
  have h1:=spO_le L k
  have h2:=HL.out
  refine (skip_any U sb (L.drop k) (spO L k) h.sbx (by rw[List.length_drop];omega) ⟨by rw[List.length_drop];omega,by rw[List.length_drop];omega⟩ (HV.out _ h.bel).2.2.2 hGs).mono fun e w' ⟨a1,a2,a3⟩=>⟨a1,?_⟩
  rw[skL_at] at a2
  exact h.t1 a3 a2
 have HPs:Hid (∀U k av acc n,TI w sb L U k av acc→k+n≤L.length→Calls Tryz.prog 41 #[Zp sb,Zi (n:Int)] U fun e w'=>e=.returned (.tuple #[])∧T1 sb U w'∧TI w sb L w' (k+n) av acc):=fun U k av acc n h hk=>by
  have h1:=spO_le L k
  have h2:=HL.out
  refine (pass_any U sb (L.drop k) (spO L k) n h.sbx (by rw[List.length_drop];omega) (by rw[List.length_drop];omega) ⟨by omega,by omega⟩).mono fun e w' ⟨a1,a2,a3⟩=>⟨a1,a3,?_⟩
  rw[List.drop_drop,spO_add] at a2
  exact h.t1 a3 a2
 have HTk:Hid (∀U k,Below w.heap.size w U→L.drop k≠[]→Calls Tryz.prog 40 #[.string (S (L.drop k))] U fun e w'=>e=.returned (tkP (tokA (L.drop k)))∧Below U.heap.size U w'):=fun U k hU hk=>by
  obtain⟨v1,v2,v3,_⟩:=HV.out _ hU
  have h2:=HL.out
  exact tokenAhead_any U (L.drop k) hk (by rw[List.length_drop];omega) v1 v2 v3
 rw[← hW0,← hsb]
 clear hW0 hsb HB2 hG
 refine (HSk.out W0 0 _ _ HT0.out (by omega)).mono ?_
 rintro e w3 ⟨rfl,hti⟩
 have HT3:Hid (TI w sb L w3 (KL L) (Zn) []∧R=tkE L L.length (KL L) []):=by
  refine⟨?_,by rw[HR.out];unfold tksA;rw[tkR_tkE,Nat.zero_add,List.drop_zero]⟩
  have h:=hti
  rw[Nat.zero_add,List.drop_zero] at h
  exact h
 clear hti HT0 HR
 go_wp2_with fail
 go_loopw[5] (fun x wr=>∃(a:Option Addr) (n c:Nat),x=.slice a n c∧Hid (∃e f acc,TI w sb L wr e (.slice a n c) acc∧R=tkE L f e acc∧L.length≤e+f∧e≤L.length∧acc.length≤e∧n=acc.length)) (fun _ wr=>(match wr.cell? ⟨sb,0,none⟩ with | some (.string s)=>s.size | _=>0))
 case atStart=>exact⟨none,0,0,rfl,KL L,L.length,[],HT3.out.1,HT3.out.2,by omega,KL_le L,by simp,rfl⟩
 case round=>
  clear HT3
  obtain⟨a,n,c,rfl,HI⟩:=hrel
  obtain⟨k,f,acc,hti,hR,hf,hk,hacc,hn⟩:=HI.out
  obtain⟨c0,c1,c2,_,_,_⟩:=hti.sbx.cells
  have hts:=S_toList (L.drop k)
  have HTI:=Zh hti
  have HRk:=Zh hR
  have HN:=Zh hn
  have HF:=Zh (And.intro hf (And.intro hk hacc))
  clear hti hR hn HI hf hk hacc
  by_cases h0:L.drop k=[]
  ·have hq:((S (L.drop k)).toList == [])=true:=by rw[hts,h0];rfl
   have HP:Hid (TksPost w R (.returned (.tuple #[.slice a n c,.nilIface])) wr):=by
    have e:R=.ok acc:=by rw[HRk.out];unfold tkE;rw[if_pos h0]
    rw[e,HN.out]
    refine⟨a,c,rfl,?_,HTI.out.bel⟩
    have h:=HTI.out.own
    rw[HN.out] at h
    exact ownsRow_mono h (by have:=HTI.out.sbl;omega)
   clear h0 hts HRk HN
   generalize S (L.drop k)=u at *
   go_wp2_with fail
   go_ret2
   exact HP.out
  ·have hq:((S (L.drop k)).toList == [])=false:=by
    rw[hts]
    simpa using h0
   have HTk2:=Zh (HTk.out wr k HTI.out.bel h0)
   have HRk2:Hid (R=match tokA (L.drop k) with
    | .er x=>.er (spO L k) x
    | .ok kd t n=>tkR L f (k+t.length) (acc ++ [(kd,t,n,spO L k)])):=by show R=_;rw[HRk.out];unfold tkE;rw[if_neg h0];rfl
   have HPos:Hid (∀kd t n,tokA (L.drop k)=.ok kd t n→0 < t.length∧k+t.length≤L.length):=fun kd t n h=>by
    have h1:=tokA_pos h0 h
    have h2:=h1.2.1
    rw[List.length_drop] at h2
    have h3:=HF.out.2.1
    exact⟨h1.1,by omega⟩
   have HD0:Hid (L.drop k≠[]):=h0
   have HEr:Hid (∀x,tokA (L.drop k)=.er x→x≠0):=fun x h=>tokA_er h
   clear h0 hts HRk
   cases htk:tokA (L.drop k) with
   | er x=>
    have hx0:=HEr.out x htk
    rw[htk] at HTk2 HRk2
    rw[show tkP (.er x)=.tuple #[.agg #[Zi 0,Ze,Zi 0,Zi 0,Zi 0],Zi (x:Int)] from rfl] at HTk2
    simp only at HRk2
    have hxI:((x:Int) != 0)=true:=by simp;omega
    obtain⟨q,hq2⟩:=nm (spO L k)
    rw[← hq2] at c1 c2 HRk2
    obtain⟨ql,qc⟩:=q
    simp only at c1 c2
    have hc:=c0
    clear HEr HPos hx0 htk hc
    go_wp2_with fail
    refine HTk2.out.mono ?_
    rintro e w4 ⟨rfl,hb4⟩
    have HT4:Hid (∀o,TI w sb L (w4.alloc o) k (.slice a n c) acc):=fun o=>(HTI.out.below hb4).below (bel_al w4 o)
    have HCs:Hid (∀o,(w4.alloc o).cell? ⟨sb,1,none⟩=some (Zi (ql:Int))∧(w4.alloc o).cell? ⟨sb,2,none⟩=some (Zi (qc:Int))):=fun o=>by
     obtain⟨_,a1,a2,_⟩:=(HT4.out o).sbx.cells
     rw[← hq2] at a1 a2
     exact⟨a1,a2⟩
    have HWr:Hid (∀U,Calls Tryz.prog 14 #[.agg #[Zi (ql:Int),Zi (qc:Int)],Zi (x:Int)] U fun e w'=>∃v,e=.returned v∧ErrAt w' v ql qc (x:Int)∧Below U.heap.size U w'):=fun U=>wrongAtS_any U ql qc x
    obtain⟨e1,e2⟩:=HCs.out (.cells #[Zi 0,Ze,Zi 0,Zi 0,Zi 0] 83)
    clear hb4 HTk2 hq2
    go_wp2_with fail
    refine (HWr.out _).mono ?_
    rintro e w5 ⟨v,rfl,he,hb5⟩
    have HP:Hid (TksPost w R (.returned (.tuple #[Zn,v])) w5):=by
     rw[HRk2.out]
     exact⟨v,rfl,he,(HT4.out _).bel.trans (hb5.mono (HT4.out _).bel.size)⟩
    clear he hb5 HRk2
    go_wp2_with fail
    go_ret2
    exact HP.out
   | ok kd t nv=>
    have hps:=HPos.out kd t nv htk
    rw[htk] at HTk2 HRk2
    rw[show tkP (.ok kd t nv)=.tuple #[.agg #[Zi (kd:Int),.string (S t),Zi nv,Zi 0,Zi 0],Zi 0] from rfl] at HTk2
    simp only at HRk2
    obtain⟨q,hq2⟩:=nm (spO L k)
    rw[← hq2] at c1 c2 HRk2
    obtain⟨ql,qc⟩:=q
    simp only at c1 c2
    obtain⟨tn,htn⟩:=nm (t.length)
    have hst:(S t).size=tn:=by rw[S_size,htn]
    rw[← htn] at hps HRk2
    have HTn:=Zh htn
    have HPs2:=Zh hps
    clear HEr HPos htk hps htn
    go_wp2_with fail
    refine HTk2.out.mono ?_
    rintro e w4 ⟨rfl,hb4⟩
    have HT4:Hid (∀o,TI w sb L (w4.alloc o) k (.slice a n c) acc):=fun o=>(HTI.out.below hb4).below (bel_al w4 o)
    have HCs:Hid (∀o,(w4.alloc o).cell? ⟨sb,1,none⟩=some (Zi (ql:Int))∧(w4.alloc o).cell? ⟨sb,2,none⟩=some (Zi (qc:Int))):=fun o=>by
     obtain⟨_,a1,a2,_⟩:=(HT4.out o).sbx.cells
     rw[← hq2] at a1 a2
     exact⟨a1,a2⟩
    have HPs3:Hid (∀o,Calls Tryz.prog 41 #[Zp sb,Zi (tn:Int)] (w4.alloc o) fun e w'=>e=.returned (.tuple #[])∧T1 sb (w4.alloc o) w'∧TI w sb L w' (k+tn) (.slice a n c) acc):=fun o=>HPs.out _ _ _ _ tn (HT4.out o) HPs2.out.2
    have hbs:sb < w4.heap.size:=by
     have h1:=HTI.out.sbx
     have h2:=blk_lt h1
     have:=hb4.size
     omega
    obtain⟨e1,e2⟩:=HCs.out (.cells #[Zi (kd:Int),.string (S t),Zi nv,Zi 0,Zi 0] 83)
    clear hb4 HTk2 hq2
    go_wp2_with fail
    obtain⟨B,hB⟩:=nm (w4.heap.size)
    have HR5:Hid (Row5 (w4.alloc (.cells #[Zi (kd:Int),.string (S t),Zi nv,Zi (ql:Int),Zi (qc:Int)] 83)) B (Zi (kd:Int)) (.string (S t)) (Zi nv) (Zi (ql:Int)) (Zi (qc:Int))):=by show Row5 _ _ _ _ _ _ _;rw[hB];exact Row5.al _ _ _ _ _ _
    rw[← hB]
    rw[← hB] at hbs
    refine (HPs3.out _).mono ?_
    rintro e w5 ⟨rfl,ht5,hti5⟩
    have hr5:=ht5.row5 HR5.out (by omega)
    obtain⟨⟨d0,d1,d2,d3,d4⟩,_⟩:=hr5.cells
    have HT5:=Zh hti5
    have HOw:Hid (w5.ownsRow (sb+1) 83 5 (.slice a n c) n (tkc acc)):=by
     have h:=hti5.own
     show World.ownsRow _ _ _ _ _ _ _
     rw[HN.out]
     rw[HN.out] at h
     exact h
    have hn9:n≤65536:=by have h1:=HF.out;have h2:=HL.out;have h3:=HN.out;omega
    have hsz5:sb+1≤w5.heap.size:=blk_lt hti5.sbx
    obtain⟨i0,ii,ie⟩:=Option.map_eq_some_iff.1 info_tok
    simp only[Prod.mk.injEq] at ie
    obtain⟨iz0,iz1,iz2⟩:=ie
    clear hr5 hti5 ht5 HR5 HCs HT4 HPs3 e1 e2 hB hbs
    go_wp2_with (first
     | (at_builtin;refine wpList_append_gen rfl _ _ 38 83 i0 (.agg #[Zi 0,Ze,Zi 0,Zi 0,Zi 0]) 5 48 Tryz.underlying38 ii iz0 iz1 iz2 rfl (by decide) rfl (sb+1) (.slice a n c) n (tkc acc) rfl (World.ownsRow.alloc HOw.out _) ⟨w5.heap.size,0,none⟩ 1 1 [Zi (kd:Int),.string (S t),Zi nv,Zi (ql:Int),Zi (qc:Int)] rfl rfl (src_at w5 _ _) (by intro u hu;simp at hu;rcases hu with rfl | rfl | rfl | rfl | rfl <;> rfl) (by unfold maxLen;omega) (by omega) (Nat.le_trans hsz5 (bel_al _ _).size) ?_;intro v7 w7 h1 h2)
     | fail)
    obtain⟨a7,c7,hv7,_⟩:=own_slice h1
    subst hv7
    have HT7:Hid (TI w sb L w7 (k+tn) (.slice a7 (n+1) c7) (acc ++ [(kd,t,nv,ql,qc)])):=by
     refine (HT5.out.below (bel_al w5 _)).app ?_ h2
     unfold OwnT
     rw[tkc_app,tkc_one,List.length_append,← HN.out]
     exact h1
    have HSk2:=Zh (HSk.out w7 (k+tn) _ _ HT7.out HPs2.out.2)
    clear h1 h2 HT7 HOw
    refine HSk2.out.mono ?_
    rintro e w8 ⟨rfl,hti8⟩
    obtain⟨c8,_⟩:=hti8.sbx.cells
    have HC0:=Zh c0
    have HC8:=Zh c8
    have HF8:Hid (∃e f acc,TI w sb L w8 e (.slice a7 (n+1) c7) acc∧R=tkE L f e acc∧L.length≤e+f∧e≤L.length∧acc.length≤e∧n+1=acc.length):=by
     have h1:=HF.out
     have h2:=HPs2.out
     have h3:=KL_le (L.drop (k+tn))
     rw[List.length_drop] at h3
     obtain⟨f',rfl⟩:∃f',f=f'+1:=⟨f - 1,by omega⟩
     refine⟨k+tn+KL (L.drop (k+tn)),f',_,hti8,?_,by omega,by omega,?_,?_⟩
     ·rw[HRk2.out,tkR_tkE]
     ·rw[List.length_append,List.length_singleton];omega
     ·rw[List.length_append,List.length_singleton,← HN.out]
    have HMs:Hid ((S (L.drop (k+tn+KL (L.drop (k+tn))))).size < (S (L.drop k)).size):=by
     have h2:=HPs2.out
     show _ < _
     rw[S_size,S_size,List.length_drop,List.length_drop]
     omega
    clear hti8 c8 c0 HRk2 HTI HT5
    go_wp2_with fail
    go_roundw
    case rel=>exact⟨a7,n+1,c7,rfl,HF8⟩
    case measure=>
     rw[HC0.out,HC8.out]
     exact HMs.out
end Go.Proofs.YtlfooogmoigpfaaGreatDoor
