import Derived.Test.YtlfooogmoigpfaaGreatDoorQaa
import Derived.Lib.ItoaMem
import Derived.Lib.ParseIntB
import Derived.Lib.ItoaNum
import Derived.Lib.ItoaLen
import Derived.Laws.Runes
import Derived.Shelf.Small.Utf8
import Derived.Deep.QuietTactic
import Derived.BigQuiet
import Derived.WalkMore
import Derived.Test.YtlfooogmoigpfaaGreatDoorRows
import Derived.WalkKit
import Derived.WalkLawsBesides
import Derived.ProofKit
import Derived.OpenShut
import Derived.Laws.BitsAllLaws
import Derived.Laws.CopyOwn
import Derived.WalkSmall
set_option maxRecDepth 100000
set_option maxHeartbeats 8000000
namespace Go.Proofs.YtlfooogmoigpfaaGreatDoor
open Go.RowKit Go.Sort Go.Shelf
def skC:Nat→List UInt8→Nat
 | 0,_=>0
 | f+1,l=>if gapL l=0 then 0 else gapL l+skC f (l.drop (gapL l))
theorem skN_skC:∀(f:Nat) (l:List UInt8) (p:Nat × Nat),skN f l p=(l.drop (skC f l),spL p (l.take (skC f l)))
 | 0,l,p=>by simp[skN,skC,spL]
 | f+1,l,p=>by
  unfold skN skC
  split
  ·simp[spL]
  ·rw[skN_skC f,List.drop_drop,← spL_app,← List.take_add]
theorem gapL_nil:gapL []=0:=rfl
theorem skC_fuel:∀(f f':Nat) (l:List UInt8),l.length≤f→l.length≤f'→skC f l=skC f' l
 | 0,0,_,_,_=>rfl
 | 0,f'+1,l,h,_=>by
  have:l=[]:=List.eq_nil_of_length_eq_zero (by omega)
  subst this
  simp[skC,gapL_nil]
 | f+1,0,l,_,h=>by
  have:l=[]:=List.eq_nil_of_length_eq_zero (by omega)
  subst this
  simp[skC,gapL_nil]
 | f+1,f'+1,l,h,h'=>by
  unfold skC
  split
  ·rfl
  ·rw[skC_fuel f f' _ (by simp;omega) (by simp;omega)]
def KL (l:List UInt8):Nat:=skC l.length l
theorem KL_stop {l:List UInt8} (h:gapL l=0):KL l=0:=by
 unfold KL
 cases l.length with
 | zero=>rfl
 | succ n=>simp[skC,h]
theorem KL_go {l:List UInt8} (h:gapL l≠0):KL l=gapL l+KL (l.drop (gapL l)):=by
 have hl:=gapL_le l
 unfold KL
 obtain⟨n,hn⟩:∃n,l.length=n+1:=⟨l.length - 1,by omega⟩
 rw[hn]
 have e:skC (n+1) l=gapL l+skC n (l.drop (gapL l)):=by simp[skC,h]
 rw[e,skC_fuel n (l.drop (gapL l)).length _ (by simp;omega) (Nat.le_refl _)]
theorem skL_KL (l:List UInt8) (p:Nat × Nat):skL l p=(l.drop (KL l),spL p (l.take (KL l))):=skN_skC _ _ _
theorem KL_le (l:List UInt8):KL l≤l.length:=by
 unfold KL
 suffices h:∀(f:Nat) (l:List UInt8),skC f l≤l.length from h _ _
 intro f
 induction f with
 | zero=>intro l;simp[skC]
 | succ f ih=>
  intro l
  unfold skC
  split
  ·omega
  ·have h1:=ih (l.drop (gapL l))
   have h2:=gapL_le l
   simp only[List.length_drop] at h1
   omega
theorem pre_no {a:UInt8} {b:UInt8} {r:List UInt8} {x:UInt8} (h:a.toNat≠x.toNat):[x,b].isPrefixOf (a :: r)=false:=by
 have:(x == a)=false:=by
  rw[beq_eq_false_iff_ne]
  intro e
  exact h (by rw[e])
 simp[List.isPrefixOf,this]
theorem gap_other {a:UInt8} {r:List UInt8} (h:a.toNat≠47):gapL (a :: r)=frB blC (a :: r):=by
 unfold gapL
 rw[pre_no (x:=47) h,pre_no (x:=47) h]
 simp
theorem KL_blank {a:UInt8} {r:List UInt8} (h:blC a.toNat=true):KL (a :: r)=1+KL r:=by
 have h47:a.toNat≠47:=by
  intro e
  rw[e] at h
  revert h
  decide
 have g1:gapL (a :: r)=frB blC r+1:=by rw[gap_other h47];simp[frB,h]
 have k1:=KL_go (l:=a :: r) (by omega)
 rw[g1,List.drop_succ_cons] at k1
 rw[k1]
 cases r with
 | nil=>simp[frB,KL,skC]
 | cons b r2=>
  by_cases hb:blC b.toNat=true
  ·have hb47:b.toNat≠47:=by
    intro e
    rw[e] at hb
    revert hb
    decide
   have g2:gapL (b :: r2)=frB blC (b :: r2):=gap_other hb47
   have hp:frB blC (b :: r2)≠0:=by simp[frB,hb]
   have k2:=KL_go (l:=b :: r2) (by rw[g2];exact hp)
   rw[g2] at k2
   rw[k2]
   omega
  ·have hz:frB blC (b :: r2)=0:=by simp[frB,hb]
   rw[hz]
   simp
theorem gap_none {l:List UInt8} (h1:[47,47].isPrefixOf l=false) (h2:[47,42].isPrefixOf l=false) (h3:∀h:0 < l.length,blC l[0].toNat=false):gapL l=0:=by
 unfold gapL
 rw[h1,h2]
 cases l with
 | nil=>rfl
 | cons a r=>
  have:=h3 (by simp)
  simp only[List.getElem_cons_zero] at this
  simp[frB,this]
theorem drop2 {l:List UInt8} {k:Nat} (h:k+1 < l.length):l.drop k=l[k] :: l[k+1] :: l.drop (k+2):=by
 rw[List.drop_eq_getElem_cons (by omega),List.drop_eq_getElem_cons h]
theorem beq_nat (x y:UInt8):(x == y)=decide (x.toNat=y.toNat):=by
 by_cases h:x=y
 ·subst h;simp
 ·have h2:x.toNat≠y.toNat:=fun e=>h (UInt8.toNat_inj.1 e)
  simp[h,h2]
theorem pre_at {l:List UInt8} {k:Nat} (h:k+1 < l.length) (x y:UInt8):[x,y].isPrefixOf (l.drop k)=(decide (x.toNat=l[k].toNat) && decide (y.toNat=l[k+1].toNat)):=by
 rw[drop2 h]
 simp[List.isPrefixOf,beq_nat]
theorem pre_ne1 {l:List UInt8} {k:Nat} (h:k+1 < l.length) (x y:UInt8) (hy:l[k+1].toNat≠y.toNat):[x,y].isPrefixOf (l.drop k)=false:=by
 rw[pre_at h]
 rw[decide_eq_false (fun e=>hy (Eq.symm e))]
 simp
theorem pre_end {l:List UInt8} {k:Nat} (h:l.length≤k+1) (x y:UInt8):[x,y].isPrefixOf (l.drop k)=false:=by
 by_cases h0:k < l.length
 ·have h1:l.drop (k+1)=[]:=List.drop_eq_nil_of_le h
  rw[List.drop_eq_getElem_cons h0,h1]
  simp[List.isPrefixOf]
 ·rw[List.drop_eq_nil_of_le (by omega)]
  rfl
theorem gap_line {l:List UInt8} {k j:Nat} (h:k+1 < l.length) (h0:l[k].toNat=47) (h1:l[k+1].toNat=47) (hkj:k≤j) (hj:j≤l.length) (ha:∀i (hi:i < l.length),k≤i→i < j→l[i].toNat≠10) (hb:∀hi:j < l.length,l[j].toNat=10):KL (l.drop k)=(j - k)+KL (l.drop j):=by
 have hg:gapL (l.drop k)=j - k:=by
  unfold gapL
  rw[if_pos (by rw[pre_at h];simp[h0,h1])]
  refine frB_of nlC (l.drop k) (j - k) (by simp;omega) (fun i hi hlt=>?_) (fun hi=>?_)
  ·simp only[List.length_drop] at hi
   have:=ha (k+i) (by omega) (by omega) (by omega)
   simp only[List.getElem_drop,nlC]
   simp[this]
  ·simp only[List.length_drop] at hi
   have e:k+(j - k)=j:=by omega
   have:=hb (by omega)
   simp only[List.getElem_drop,nlC,e]
   simp[this]
 have hjk:j≠k:=by
  intro e
  subst e
  have:=hb (by omega)
  omega
 have:=KL_go (l:=l.drop k) (by omega)
 rw[hg,List.drop_drop] at this
 rw[this,show k+(j - k)=j by omega]
theorem occ_at {l:List UInt8} {k:Nat} (m:Nat) (h:k+m+1 < l.length):Lib.occAt (l.drop k) [42,47] m=(decide (l[k+m].toNat=42) && decide (l[k+m+1].toNat=47)):=by
 unfold Lib.occAt
 rw[List.drop_drop,pre_at h]
 congr 1 <;> exact decide_eq_decide.2 ⟨fun e=>e.symm,fun e=>e.symm⟩
theorem gap_block {l:List UInt8} {k j:Nat} (h:k+1 < l.length) (h0:l[k].toNat=47) (h1:l[k+1].toNat=42) (hkj:k+2≤j) (hj:j+1 < l.length) (hno:Lib.NoOcc (l.drop (k+2)) [42,47] (j - (k+2))) (hj0:l[j].toNat=42) (hj1:l[j+1].toNat=47):KL (l.drop k)=(j+2 - k)+KL (l.drop (j+2)):=by
 have hix:Lib.index (l.drop (k+2)) [42,47]=((j - (k+2):Nat):Int):=Lib.index_hit hno (by simp;omega) (by
  have e:k+2+(j - (k+2))=j:=by omega
  rw[occ_at (k:=k+2) (j - (k+2)) (by omega)]
  simp only[e]
  simp[hj0,hj1])
 have hg:gapL (l.drop k)=j+2 - k:=by
  unfold gapL
  rw[if_neg (by rw[pre_at h];simp[h1]),if_pos (by rw[pre_at h];simp[h0,h1]),List.drop_drop,hix,if_neg (by omega)]
  omega
 have:=KL_go (l:=l.drop k) (by omega)
 rw[hg,List.drop_drop] at this
 rw[this,show k+(j+2 - k)=j+2 by omega]
theorem gap_open {l:List UInt8} {k j:Nat} (h:k+1 < l.length) (h0:l[k].toNat=47) (h1:l[k+1].toNat=42) (hkj:k+2≤j) (hj:l.length≤j+1) (hno:Lib.NoOcc (l.drop (k+2)) [42,47] (j - (k+2))):KL (l.drop k)=0∧[47,42].isPrefixOf (l.drop k)=true:=by
 have hix:Lib.index (l.drop (k+2)) [42,47] = -1:=Lib.index_past (by simp) hno (by simp;omega)
 refine⟨KL_stop ?_,by rw[pre_at h];simp[h0,h1]⟩
 unfold gapL
 rw[if_neg (by rw[pre_at h];simp[h1]),if_pos (by rw[pre_at h];simp[h0,h1]),List.drop_drop,hix]
 simp
def ownL:List (List UInt8):=[[99,111,110,115,116],[112,114,111,99],[114,101,97,100,115],[119,114,105,116,101,115],[108,101,116],[112,117,116],[100,101,108],[111,117,116],[97,98,111,114,116],[115,116,111,112],[105,102],[101,108,115,101],[114,101,112,101,97,116],[103,101,116],[104,97,115],[109,105,110],[109,97,120]]
def isOwn (t:List UInt8):Bool:=ownL.contains t
theorem S_toList (l:List UInt8):(S l).toList=l:=by rw[ByteArray.toList_eq];simp[S]
theorem isWord_any (w:World) (t:List UInt8):Calls Tryz.prog 101 #[.string (S t)] w fun e w'=>e=.returned (.bool (isOwn t))∧w'=w:=by
 have HR:Hid (isOwn t=((t == [99,111,110,115,116]) || (t == [112,114,111,99]) || (t == [114,101,97,100,115]) || (t == [119,114,105,116,101,115]) || (t == [108,101,116]) || (t == [112,117,116]) || (t == [100,101,108]) || (t == [111,117,116]) || (t == [97,98,111,114,116]) || (t == [115,116,111,112]) || (t == [105,102]) || (t == [101,108,115,101]) || (t == [114,101,112,101,97,116]) || (t == [103,101,116]) || (t == [104,97,115]) || (t == [109,105,110]) || (t == [109,97,120]))):=by
  show _=_
  simp only[isOwn,ownL,List.contains_cons,List.contains_nil,Bool.or_false,Bool.or_assoc]
 have q0:((S t).toList == [99,111,110,115,116])=(t == [99,111,110,115,116]):=by rw[S_toList]
 obtain⟨b0,hb0⟩:=nm ((t == [99,111,110,115,116]))
 rw[← hb0] at q0 HR
 clear hb0
 have q1:((S t).toList == [112,114,111,99])=(t == [112,114,111,99]):=by rw[S_toList]
 obtain⟨b1,hb1⟩:=nm ((t == [112,114,111,99]))
 rw[← hb1] at q1 HR
 clear hb1
 have q2:((S t).toList == [114,101,97,100,115])=(t == [114,101,97,100,115]):=by rw[S_toList]
 obtain⟨b2,hb2⟩:=nm ((t == [114,101,97,100,115]))
 rw[← hb2] at q2 HR
 clear hb2
 have q3:((S t).toList == [119,114,105,116,101,115])=(t == [119,114,105,116,101,115]):=by rw[S_toList]
 obtain⟨b3,hb3⟩:=nm ((t == [119,114,105,116,101,115]))
 rw[← hb3] at q3 HR
 clear hb3
 have q4:((S t).toList == [108,101,116])=(t == [108,101,116]):=by rw[S_toList]
 obtain⟨b4,hb4⟩:=nm ((t == [108,101,116]))
 rw[← hb4] at q4 HR
 clear hb4
 have q5:((S t).toList == [112,117,116])=(t == [112,117,116]):=by rw[S_toList]
 obtain⟨b5,hb5⟩:=nm ((t == [112,117,116]))
 rw[← hb5] at q5 HR
 clear hb5
 have q6:((S t).toList == [100,101,108])=(t == [100,101,108]):=by rw[S_toList]
 obtain⟨b6,hb6⟩:=nm ((t == [100,101,108]))
 rw[← hb6] at q6 HR
 clear hb6
 have q7:((S t).toList == [111,117,116])=(t == [111,117,116]):=by rw[S_toList]
 obtain⟨b7,hb7⟩:=nm ((t == [111,117,116]))
 rw[← hb7] at q7 HR
 clear hb7
 have q8:((S t).toList == [97,98,111,114,116])=(t == [97,98,111,114,116]):=by rw[S_toList]
 obtain⟨b8,hb8⟩:=nm ((t == [97,98,111,114,116]))
 rw[← hb8] at q8 HR
 clear hb8
 have q9:((S t).toList == [115,116,111,112])=(t == [115,116,111,112]):=by rw[S_toList]
 obtain⟨b9,hb9⟩:=nm ((t == [115,116,111,112]))
 rw[← hb9] at q9 HR
 clear hb9
 have q10:((S t).toList == [105,102])=(t == [105,102]):=by rw[S_toList]
 obtain⟨b10,hb10⟩:=nm ((t == [105,102]))
 rw[← hb10] at q10 HR
 clear hb10
 have q11:((S t).toList == [101,108,115,101])=(t == [101,108,115,101]):=by rw[S_toList]
 obtain⟨b11,hb11⟩:=nm ((t == [101,108,115,101]))
 rw[← hb11] at q11 HR
 clear hb11
 have q12:((S t).toList == [114,101,112,101,97,116])=(t == [114,101,112,101,97,116]):=by rw[S_toList]
 obtain⟨b12,hb12⟩:=nm ((t == [114,101,112,101,97,116]))
 rw[← hb12] at q12 HR
 clear hb12
 have q13:((S t).toList == [103,101,116])=(t == [103,101,116]):=by rw[S_toList]
 obtain⟨b13,hb13⟩:=nm ((t == [103,101,116]))
 rw[← hb13] at q13 HR
 clear hb13
 have q14:((S t).toList == [104,97,115])=(t == [104,97,115]):=by rw[S_toList]
 obtain⟨b14,hb14⟩:=nm ((t == [104,97,115]))
 rw[← hb14] at q14 HR
 clear hb14
 have q15:((S t).toList == [109,105,110])=(t == [109,105,110]):=by rw[S_toList]
 obtain⟨b15,hb15⟩:=nm ((t == [109,105,110]))
 rw[← hb15] at q15 HR
 clear hb15
 have q16:((S t).toList == [109,97,120])=(t == [109,97,120]):=by rw[S_toList]
 obtain⟨b16,hb16⟩:=nm ((t == [109,97,120]))
 rw[← hb16] at q16 HR
 clear hb16
 generalize S t=s at *
 generalize isOwn t=z at *
 cases b0 with
 | true=>
  have e:z=true:=by have h:=HR.out;simpa using h
  subst e
  clear HR
  go_enter Tryz.func101,Tryz.ntmps101
  go_wp2
  go_ret
  exact⟨rfl,rfl⟩
 | false=>
 cases b1 with
 | true=>
  have e:z=true:=by have h:=HR.out;simpa using h
  subst e
  clear HR
  go_enter Tryz.func101,Tryz.ntmps101
  go_wp2
  go_ret
  exact⟨rfl,rfl⟩
 | false=>
 cases b2 with
 | true=>
  have e:z=true:=by have h:=HR.out;simpa using h
  subst e
  clear HR
  go_enter Tryz.func101,Tryz.ntmps101
  go_wp2
  go_ret
  exact⟨rfl,rfl⟩
 | false=>
 cases b3 with
 | true=>
  have e:z=true:=by have h:=HR.out;simpa using h
  subst e
  clear HR
  go_enter Tryz.func101,Tryz.ntmps101
  go_wp2
  go_ret
  exact⟨rfl,rfl⟩
 | false=>
 cases b4 with
 | true=>
  have e:z=true:=by have h:=HR.out;simpa using h
  subst e
  clear HR
  go_enter Tryz.func101,Tryz.ntmps101
  go_wp2
  go_ret
  exact⟨rfl,rfl⟩
 | false=>
 cases b5 with
 | true=>
  have e:z=true:=by have h:=HR.out;simpa using h
  subst e
  clear HR
  go_enter Tryz.func101,Tryz.ntmps101
  go_wp2
  go_ret
  exact⟨rfl,rfl⟩
 | false=>
 cases b6 with
 | true=>
  have e:z=true:=by have h:=HR.out;simpa using h
  subst e
  clear HR
  go_enter Tryz.func101,Tryz.ntmps101
  go_wp2
  go_ret
  exact⟨rfl,rfl⟩
 | false=>
 cases b7 with
 | true=>
  have e:z=true:=by have h:=HR.out;simpa using h
  subst e
  clear HR
  go_enter Tryz.func101,Tryz.ntmps101
  go_wp2
  go_ret
  exact⟨rfl,rfl⟩
 | false=>
 cases b8 with
 | true=>
  have e:z=true:=by have h:=HR.out;simpa using h
  subst e
  clear HR
  go_enter Tryz.func101,Tryz.ntmps101
  go_wp2
  go_ret
  exact⟨rfl,rfl⟩
 | false=>
 cases b9 with
 | true=>
  have e:z=true:=by have h:=HR.out;simpa using h
  subst e
  clear HR
  go_enter Tryz.func101,Tryz.ntmps101
  go_wp2
  go_ret
  exact⟨rfl,rfl⟩
 | false=>
 cases b10 with
 | true=>
  have e:z=true:=by have h:=HR.out;simpa using h
  subst e
  clear HR
  go_enter Tryz.func101,Tryz.ntmps101
  go_wp2
  go_ret
  exact⟨rfl,rfl⟩
 | false=>
 cases b11 with
 | true=>
  have e:z=true:=by have h:=HR.out;simpa using h
  subst e
  clear HR
  go_enter Tryz.func101,Tryz.ntmps101
  go_wp2
  go_ret
  exact⟨rfl,rfl⟩
 | false=>
 cases b12 with
 | true=>
  have e:z=true:=by have h:=HR.out;simpa using h
  subst e
  clear HR
  go_enter Tryz.func101,Tryz.ntmps101
  go_wp2
  go_ret
  exact⟨rfl,rfl⟩
 | false=>
 cases b13 with
 | true=>
  have e:z=true:=by have h:=HR.out;simpa using h
  subst e
  clear HR
  go_enter Tryz.func101,Tryz.ntmps101
  go_wp2
  go_ret
  exact⟨rfl,rfl⟩
 | false=>
 cases b14 with
 | true=>
  have e:z=true:=by have h:=HR.out;simpa using h
  subst e
  clear HR
  go_enter Tryz.func101,Tryz.ntmps101
  go_wp2
  go_ret
  exact⟨rfl,rfl⟩
 | false=>
 cases b15 with
 | true=>
  have e:z=true:=by have h:=HR.out;simpa using h
  subst e
  clear HR
  go_enter Tryz.func101,Tryz.ntmps101
  go_wp2
  go_ret
  exact⟨rfl,rfl⟩
 | false=>
 cases b16 with
 | true=>
  have e:z=true:=by have h:=HR.out;simpa using h
  subst e
  clear HR
  go_enter Tryz.func101,Tryz.ntmps101
  go_wp2
  go_ret
  exact⟨rfl,rfl⟩
 | false=>
 have e:z=false:=by have h:=HR.out;simpa using h
 subst e
 clear HR
 go_enter Tryz.func101,Tryz.ntmps101
 go_wp2
 go_ret
 exact⟨rfl,rfl⟩
abbrev tkV (k:Int) (t:List UInt8) (n:Int) (p:Nat × Nat):Value:=.agg #[Zi k,.string (S t),Zi n,Zi (p.1:Int),Zi (p.2:Int)]
theorem wordToken_any (w:World) (t:List UInt8):Calls Tryz.prog 67 #[.string (S t)] w fun e w'=>e=.returned (tkV (if isOwn t then 2 else 1) t 0 (0,0))∧Below w.heap.size w w':=by
 have HI:Hid (∀W,Calls Tryz.prog 101 #[.string (S t)] W fun e w'=>e=.returned (.bool (isOwn t))∧w'=W):=fun W=>isWord_any W t
 have HB:Hid (∀o,Below w.heap.size w (w.alloc o)):=fun o=>(Below.refl _ _).alloc (Nat.le_refl _) _
 generalize isOwn t=b at *
 cases b
 all_goals
  go_enter Tryz.func67,Tryz.ntmps67
  go_wp2_with (first | (go_at_call 101;refine (HI.out _).mono ?_;rintro e wE ⟨rfl,hwE⟩;have hwE':=hwE.symm;subst hwE';clear hwE))
  refine bodyPost_ret (v:=_) (by simp[results,Tryz.results67,go_sem];rfl) rfl ?_
  exact⟨rfl,HB.out _⟩
end Go.Proofs.YtlfooogmoigpfaaGreatDoor
namespace Go.Proofs.YtlfooogmoigpfaaGreatDoor.Dec
open Go.Lib
theorem decDigits_rec (u:Nat) (h:¬u < 10):decDigits u=decDigits (u / 10) ++ [UInt8.ofNat (48+u % 10)]:=by
 rw[decDigits,dif_neg h]
theorem digit_toNat (d:Nat) (h:d < 10):(UInt8.ofNat (48+d)).toNat=48+d:=by
 rw[UInt8.toNat_ofNat'];omega
theorem decDigits_ne (u:Nat):decDigits u≠[]:=by
 rw[decDigits];split <;> simp
theorem decDigits_digit (u:Nat):∀c∈decDigits u,48≤c.toNat∧c.toNat≤57:=by
 induction u using Nat.strongRecOn with
 | _ u ih=>
  intro c hc
  by_cases h:u < 10
  ·rw[decDigits_one h] at hc
   simp only[List.mem_cons,List.not_mem_nil,or_false] at hc
   subst hc;rw[digit_toNat u h];omega
  ·rw[decDigits_rec u h] at hc
   rcases List.mem_append.1 hc with h1 | h1
   ·exact ih (u / 10) (by omega) c h1
   ·simp only[List.mem_cons,List.not_mem_nil,or_false] at h1
    subst h1;rw[digit_toNat _ (by omega)];omega
theorem parse_snoc (M:Nat) (c:UInt8):∀(xs:List UInt8) (acc:Nat),parseUintM M acc (xs ++ [c])=match parseUintM M acc xs with
  | .ok a=>parseUintM M a [c]
  | e=>e
 | [],acc=>by simp[parseUintM]
 | x :: xs,acc=>by
  simp only[List.cons_append,parseUintM]
  by_cases h1:48≤x.toNat∧x.toNat≤57
  ·simp only[h1,and_self,if_true]
   by_cases h2:1844674407370955162≤acc
   ·simp[h2]
   ·by_cases h3:M < acc * 10+(x.toNat - 48)
    ·simp[h2,h3]
    ·simp only[h2,h3,if_false]
     have:=parse_snoc M c xs (acc * 10+(x.toNat - 48))
     simpa [parseUintM] using this
  ·simp[h1]
theorem parse_digits (u:Nat) (h:u < 18446744073709551616):parseUintM (2 ^ 64 - 1) 0 (decDigits u)=.ok u:=by
 induction u using Nat.strongRecOn with
 | _ u ih=>
  by_cases h10:u < 10
  ·rw[decDigits_one h10]
   simp only[parseUintM,digit_toNat u h10]
   rw[if_pos (by omega),if_neg (by omega),if_neg (by omega)]
   simp
  ·rw[decDigits_rec u h10,parse_snoc,ih (u / 10) (by omega) (by omega)]
   simp only[parseUintM,digit_toNat (u % 10) (by omega)]
   rw[if_pos (by omega),if_neg (by omega),if_neg (by omega)]
   congr 1
   omega
theorem head_digit (u:Nat):∃c r,decDigits u=c :: r∧48≤c.toNat∧c.toNat≤57:=by
 have hd:=decDigits_digit u
 cases h:decDigits u with
 | nil=>exact absurd h (decDigits_ne u)
 | cons c r=>rw[h] at hd;exact⟨c,r,rfl,hd c (by simp)⟩
theorem parse_itoa (n:Int) (h0 : -9223372036854775808≤n) (h1:n≤9223372036854775807):parseIntB 64 (itoa n)=.ok n:=by
 unfold itoa
 by_cases hn:n < 0
 ·rw[if_pos hn]
  simp only[parseIntB]
  have e:(45:UInt8).toNat=45:=rfl
  simp only[e,or_true,if_true,parseUintB]
  rw[if_neg (decDigits_ne _),parse_digits _ (by omega)]
  simp only[not_true,false_and,if_false,true_and]
  rw[if_neg (by omega)]
  congr 1
  omega
 ·rw[if_neg hn]
  obtain⟨c,r,hc,h48,h57⟩:=head_digit n.toNat
  have hp:=parse_digits n.toNat (by omega)
  rw[hc] at hp ⊢
  simp only[parseIntB]
  rw[if_neg (by omega)]
  simp only[parseUintB]
  rw[if_neg (by simp),hp]
  have h45:¬c.toNat=45:=by omega
  simp only[h45,not_false_eq_true,true_and,false_and,if_false]
  rw[if_neg (by omega)]
  congr 1
  omega
theorem parse_bounds {l:List UInt8} {v:Int} (h:parseIntB 64 l=.ok v) : -9223372036854775808≤v∧v≤9223372036854775807:=by
 unfold parseIntB at h
 split at h
 ·cases h
 ·simp only at h
  split at h
  ·cases h
  ·cases h
  ·split at h
   ·cases h
   ·split at h
    ·cases h
    ·rename_i h1 h2
     cases h
     split <;> omega
def add1 (m:Nat) (c:UInt8):Nat:=if 48≤c.toNat∧c.toNat≤57 then (10 * m+(c.toNat - 48)) % 18446744073709551616 else m
def mag (l:List UInt8):Nat:=l.foldl add1 0
theorem mag_digits (u:Nat) (h:u < 18446744073709551616):(decDigits u).foldl add1 0=u:=by
 induction u using Nat.strongRecOn with
 | _ u ih=>
  by_cases h10:u < 10
  ·rw[decDigits_one h10]
   simp only[List.foldl_cons,List.foldl_nil,add1,digit_toNat u h10]
   rw[if_pos (by omega)]
   omega
  ·rw[decDigits_rec u h10,List.foldl_append,ih (u / 10) (by omega) (by omega)]
   simp only[List.foldl_cons,List.foldl_nil,add1,digit_toNat (u % 10) (by omega)]
   rw[if_pos (by omega)]
   omega
theorem add1_lt (m:Nat) (c:UInt8) (h:m < 18446744073709551616):add1 m c < 18446744073709551616:=by
 unfold add1;split <;> omega
theorem mag_lt (l:List UInt8):∀m,m < 18446744073709551616→l.foldl add1 m < 18446744073709551616:=by
 induction l with
 | nil=>intro m h;exact h
 | cons c l ih=>intro m h;exact ih _ (add1_lt m c h)
def asInt (m:Nat):Int:=if m < 9223372036854775808 then (m:Int) else (m:Int) - 18446744073709551616
def cand (l:List UInt8):Int:=
 asInt (if l.head? = some 45 then (18446744073709551616 - mag (l.take 20)) % 18446744073709551616 else mag (l.take 20))
theorem cand_bounds (l:List UInt8) : -9223372036854775808≤cand l∧cand l≤9223372036854775807:=by
 have h:=mag_lt (l.take 20) 0 (by omega)
 have h':mag (l.take 20) < 18446744073709551616:=h
 unfold cand asInt
 split <;> split <;> omega
theorem len_digits (u:Nat) (h:u≤9223372036854775808):(decDigits u).length≤19:=by
 have key:∀k u,u < 10 ^ (k+1)→(decDigits u).length≤k+1:=by
  intro k
  induction k with
  | zero=>intro u hu;rw[decDigits_one (by simpa using hu)];simp
  | succ k ih=>
   intro u hu
   by_cases h10:u < 10
   ·rw[decDigits_one h10];simp
   ·rw[decDigits_rec u h10,List.length_append]
    have:=ih (u / 10) (by rw[Nat.pow_succ] at hu;omega)
    simp only[List.length_cons,List.length_nil]
    omega
 exact key 18 u (by omega)
theorem cand_itoa (n:Int) (h0 : -9223372036854775808≤n) (h1:n≤9223372036854775807):cand (itoa n)=n:=by
 unfold itoa
 by_cases hn:n < 0
 ·rw[if_pos hn]
  have hl:=len_digits n.natAbs (by omega)
  have hm:=mag_digits n.natAbs (by omega)
  unfold cand
  rw[List.take_of_length_le (by simp;omega)]
  have e:mag (45 :: decDigits n.natAbs)=n.natAbs:=by
   unfold mag
   rw[List.foldl_cons,show add1 0 45=0 from rfl]
   exact hm
  rw[e]
  simp only[List.head?_cons,if_true,asInt]
  split <;> omega
 ·rw[if_neg hn]
  have hl:=len_digits n.toNat (by omega)
  have hm:=mag_digits n.toNat (by omega)
  unfold cand
  rw[List.take_of_length_le (by omega)]
  have e:mag (decDigits n.toNat)=n.toNat:=hm
  rw[e]
  obtain⟨c,r,hc,h48,h57⟩:=head_digit n.toNat
  have hne:¬(decDigits n.toNat).head? = some 45:=by
   rw[hc]
   intro h
   simp only[List.head?_cons,Option.some.injEq] at h
   subst h
   exact absurd h48 (by decide)
  rw[if_neg hne]
  unfold asInt
  rw[if_pos (by omega)]
  omega
def num1 (l:List UInt8):Int × Bool:=match parseIntB 64 l with
 | .ok v=>if itoa v=l then (v,true) else (0,false)
 | _=>(0,false)
def num2 (l:List UInt8):Int × Bool:=if itoa (cand l)=l then (cand l,true) else (0,false)
theorem num_same (l:List UInt8):num1 l=num2 l:=by
 unfold num1 num2
 by_cases h:itoa (cand l)=l
 ·rw[if_pos h]
  have hb:=cand_bounds l
  have hp:=parse_itoa (cand l) hb.1 hb.2
  rw[h] at hp
  rw[hp]
  simp only[h,if_true]
 ·rw[if_neg h]
  split
  ·rename_i v hv
   have hb:=parse_bounds hv
   by_cases h2:itoa v=l
   ·exfalso
    apply h
    rw[← h2,cand_itoa v hb.1 hb.2]
   ·rw[if_neg h2]
  ·rfl
end Go.Proofs.YtlfooogmoigpfaaGreatDoor.Dec
namespace Go.Proofs.YtlfooogmoigpfaaGreatDoor
open Go.RowKit Go.Sort Go.Shelf
def pairL:List (List UInt8):=[[61,61],[33,61],[60,61],[62,61],[60,60],[62,62],[38,38],[124,124]]
def shortL:List UInt8:=[61,60,62,43,45,42,47,37,38,124,94,33,63,58,59,44,40,41,123,125,91,93]
def shN (l:List UInt8):Nat:=match l with
 | []=>0
 | c :: _=>if shortL.contains c then 1 else 0
def sgN (l:List UInt8):Nat:=if pairL.any (fun p=>p.isPrefixOf l) then 2 else shN l
def hexD (c:UInt8):Option Nat:=if 48≤c.toNat∧c.toNat≤57 then some (c.toNat - 48) else if 97≤c.toNat∧c.toNat≤102 then some (c.toNat - 87) else none
def bitsL:List UInt8→Nat→Option Nat
 | [],a=>some a
 | c :: r,a=>match hexD c with
  | none=>none
  | some d=>bitsL r (16 * a+d)
def i64N (u:Nat):Int:=if u < 9223372036854775808 then (u:Int) else (u:Int) - 18446744073709551616
def numO (t:List UInt8):Int × Bool:=
 if [48,120].isPrefixOf t then (if t.length=2∨18 < t.length then (0,false) else match bitsL (t.drop 2) 0 with
  | none=>(0,false)
  | some u=>(i64N u,true))
 else Dec.num1 t
inductive TK where
 | ok (k:Nat) (t:List UInt8) (n:Int)
 | er (e:Nat)
def c0 (l:List UInt8):Nat:=match l with
 | []=>0
 | c :: _=>c.toNat
def tokA (l:List UInt8):TK:=
 if leC (c0 l) then .ok (if isOwn (l.take (frB woC l)) then 2 else 1) (l.take (frB woC l)) 0
 else if diC (c0 l) then (if (numO (l.take (frB woC l))).2 then .ok 3 (l.take (frB woC l)) (numO (l.take (frB woC l))).1 else .er 41)
 else if [47,42].isPrefixOf l then .er 180
 else if sgN l=0 then .er 180
 else .ok 4 (l.take (sgN l)) 0
abbrev Tok:=Nat × List UInt8 × Int × Nat × Nat
abbrev spO (L:List UInt8) (k:Nat):Nat × Nat:=spL (1,1) (L.take k)
inductive TR where
 | ok (ts:List Tok)
 | er (p:Nat × Nat) (e:Nat)
def tkR (L:List UInt8):Nat→Nat→List Tok→TR
 | 0,_,acc=>.ok acc
 | f+1,k,acc=>
  if (L.drop (k+KL (L.drop k)))=[] then .ok acc
  else match tokA (L.drop (k+KL (L.drop k))) with
   | .er e=>.er (spO L (k+KL (L.drop k))) e
   | .ok kd t n=>tkR L f (k+KL (L.drop k)+t.length) (acc ++ [(kd,t,n,spO L (k+KL (L.drop k)))])
def tksA (L:List UInt8):TR:=tkR L (L.length+1) 0 []
theorem frB_pos {f:Nat→Bool} {c:UInt8} {r:List UInt8} (h:f c.toNat=true):0 < frB f (c :: r):=by simp[frB,h]
theorem sgN_le (l:List UInt8):sgN l≤l.length∧sgN l≤2:=by
 unfold sgN
 split
 ·rename_i h
  rw[List.any_eq_true] at h
  obtain⟨p,hp,h2⟩:=h
  have h3:=(List.isPrefixOf_iff_prefix.1 h2).length_le
  have h4:p.length=2:=by
   have:∀p∈pairL,p.length=2:=by decide
   exact this p hp
  omega
 ·unfold shN
  cases l with
  | nil=>simp
  | cons c r=>simp only[List.length_cons];split <;> omega
theorem woC_of_le {c:Nat} (h:leC c=true):woC c=true:=by simp[woC,h]
theorem woC_of_di {c:Nat} (h:diC c=true):woC c=true:=by simp[woC,h]
theorem tokA_pos {l:List UInt8} {k:Nat} {t:List UInt8} {n:Int} (hl:l≠[]) (h:tokA l=.ok k t n):0 < t.length∧t.length≤l.length∧t=l.take t.length:=by
 obtain⟨c,r,rfl⟩:=List.exists_cons_of_ne_nil hl
 unfold tokA at h
 have hle:=frB_le woC (c :: r)
 have e0:c0 (c :: r)=c.toNat:=rfl
 rw[e0] at h
 by_cases h1:leC c.toNat=true
 ·rw[if_pos h1] at h
  have hp:=frB_pos (r:=r) (woC_of_le h1)
  simp only[TK.ok.injEq] at h
  obtain⟨_,h2,_⟩:=h
  have e:t.length=frB woC (c :: r):=by rw[← h2,List.length_take];omega
  exact⟨by omega,by omega,by rw[e];exact h2.symm⟩
 ·rw[if_neg h1] at h
  by_cases h2:diC c.toNat=true
  ·rw[if_pos h2] at h
   have hp:=frB_pos (r:=r) (woC_of_di h2)
   split at h
   ·simp only[TK.ok.injEq] at h
    obtain⟨_,h2,_⟩:=h
    have e:t.length=frB woC (c :: r):=by rw[← h2,List.length_take];omega
    exact⟨by omega,by omega,by rw[e];exact h2.symm⟩
   ·cases h
  ·rw[if_neg h2] at h
   split at h
   ·cases h
   ·split at h
    ·cases h
    ·rename_i h3
     have h4:=sgN_le (c :: r)
     simp only[TK.ok.injEq] at h
     obtain⟨_,h2,_⟩:=h
     have e:t.length=sgN (c :: r):=by rw[← h2,List.length_take];omega
     exact⟨by omega,by omega,by rw[e];exact h2.symm⟩
theorem tokA_er {l:List UInt8} {x:Nat} (h:tokA l=.er x):x≠0:=by
 unfold tokA at h
 repeat' split at h
 all_goals first | cases h;decide | cases h
theorem bitsL_lt:∀(l:List UInt8) (a u:Nat),bitsL l a=some u→u < 16 ^ l.length * (a+1)
 | [],a,u,h=>by simp only[bitsL,Option.some.injEq] at h;subst h;simp
 | c :: r,a,u,h=>by
  unfold bitsL at h
  cases hd:hexD c with
  | none=>rw[hd] at h;cases h
  | some d=>
   rw[hd] at h
   have h1:=bitsL_lt r (16 * a+d) u h
   have h2:d < 16:=by
    unfold hexD at hd
    split at hd
    ·simp only[Option.some.injEq] at hd;omega
    ·split at hd
     ·simp only[Option.some.injEq] at hd;omega
     ·cases hd
   rw[List.length_cons,Nat.pow_succ,Nat.mul_assoc]
   refine Nat.lt_of_lt_of_le h1 (Nat.mul_le_mul_left _ (by omega))
theorem bitsL_app:∀(l m:List UInt8) (a:Nat),bitsL (l ++ m) a=(bitsL l a).bind (bitsL m)
 | [],m,a=>rfl
 | c :: r,m,a=>by
  show bitsL (c :: (r ++ m)) a=_
  unfold bitsL
  cases hexD c with
  | none=>rfl
  | some d=>exact bitsL_app r m _
theorem dec_no_x {t:List UInt8} (h:[48,120].isPrefixOf t=true):Dec.num1 t=(0,false):=by
 rw[Dec.num_same]
 unfold Dec.num2
 rw[if_neg]
 intro e
 obtain⟨r,hr⟩:=List.isPrefixOf_iff_prefix.1 h
 have ht:t=48 :: 120 :: r:=by rw[← hr];rfl
 have h120:(120:UInt8)∈Lib.itoa (Dec.cand t):=by rw[e,ht];simp
 unfold Lib.itoa at h120
 split at h120
 ·rw[List.mem_cons] at h120
  rcases h120 with h1 | h1
  ·exact absurd h1 (by decide)
  ·exact absurd (Dec.decDigits_digit _ _ h1).2 (by decide)
 ·exact absurd (Dec.decDigits_digit _ _ h120).2 (by decide)
end Go.Proofs.YtlfooogmoigpfaaGreatDoor
namespace Go.Proofs.YtlfooogmoigpfaaGreatDoor
inductive Ex where
 | mk (kind op:Nat) (n:Int) (name:List UInt8) (args:List Ex) (at_:Nat × Nat)
inductive PR (α:Type) where
 | ok (x:α) (r:List Tok)
 | er (p:Nat × Nat) (e:Nat)
def PR.bind {α β:Type} (a:PR α) (f:α→List Tok→PR β):PR β:=match a with
 | .ok x r=>f x r
 | .er p e=>.er p e
theorem PR.bind_ok {α β:Type} (x:α) (r:List Tok) (f:α→List Tok→PR β):(PR.ok x r).bind f=f x r:=rfl
theorem PR.bind_er {α β:Type} (p:Nat × Nat) (e:Nat) (f:α→List Tok→PR β):(PR.er p e:PR α).bind f=.er p e:=rfl
def nxtP (en:Nat × Nat):List Tok→Nat × Nat
 | []=>en
 | t :: _=>t.2.2.2
def nxtT:List Tok→List UInt8
 | []=>[]
 | t :: _=>t.2.1
def nxtK:List Tok→Nat
 | []=>0
 | t :: _=>t.1
def nxtN:List Tok→Int
 | []=>0
 | t :: _=>t.2.2.1
def pMust (en:Nat × Nat) (s:List UInt8) (ts:List Tok):PR Unit:=if nxtT ts=s then .ok () ts.tail else .er (nxtP en ts) 181
def pName (en:Nat × Nat) (ts:List Tok):PR (List UInt8 × (Nat × Nat)):=if nxtK ts=1 then .ok (nxtT ts,nxtP en ts) ts.tail else .er (nxtP en ts) 181
def pOpen {α:Type} (en:Nat × Nat) (nest:Nat) (ts:List Tok) (inner:Nat→List Tok→PR α):PR α:=if nest=200 then .er (nxtP en ts) 182 else inner (nest+1) ts.tail
def pBr {α:Type} (en:Nat × Nat) (nest:Nat) (s1 s2:List UInt8) (ts:List Tok) (inner:Nat→List Tok→PR α):PR α:=
 if nxtT ts=s1 then (pOpen en nest ts inner).bind fun x r=>(pMust en s2 r).bind fun _ r2=>.ok x r2 else .er (nxtP en ts) 181
def jointL:List (List UInt8 × Nat × Nat × Nat):=
 [([124,124],1,9,0),([38,38],2,8,0),([124],3,7,16),([94],4,7,17),([38],5,7,15),
  ([61,61],6,7,22),([33,61],6,7,23),([60],6,7,24),([60,61],6,7,25),([62],6,7,26),([62,61],6,7,27),
  ([60,60],7,7,18),([62,62],7,7,19),([43],8,7,10),([45],8,7,11),([42],9,7,12),([47],9,7,13),([37],9,7,14)]
def jointO (rank:Nat) (s:List UInt8):Option (Nat × Nat):=(jointL.find? fun j=>decide (j.2.1=rank) && decide (j.1=s)).map fun j=>j.2.2
def wGet:List UInt8:=[103,101,116]
def wHas:List UInt8:=[104,97,115]
def wMin:List UInt8:=[109,105,110]
def wMax:List UInt8:=[109,97,120]
mutual
def pWh (en:Nat × Nat):Nat→Nat→List Tok→PR Ex
 | 0,_,_=>.er (0,0) 0
 | f+1,nest,ts=>(pJo en f 1 nest ts).bind fun x r=>
  if nxtT r=[63] then
   pOpen en nest r fun ns r1=>(pWh en f ns r1).bind fun y r2=>(pMust en [58] r2).bind fun _ r3=>(pWh en f ns r3).bind fun z r4=>.ok (.mk 10 0 0 [] [x,y,z] (nxtP en r)) r4
  else .ok x r
def pJo (en:Nat × Nat):Nat→Nat→Nat→List Tok→PR Ex
 | 0,_,_,_=>.er (0,0) 0
 | f+1,rank,nest,ts=>if rank=10 then pUn en f nest ts else (pJo en f (rank+1) nest ts).bind fun x r=>pLo en f rank nest x r
def pLo (en:Nat × Nat):Nat→Nat→Nat→Ex→List Tok→PR Ex
 | 0,_,_,_,_=>.er (0,0) 0
 | f+1,rank,nest,x,ts=>match jointO rank (nxtT ts) with
  | none=>.ok x ts
  | some (k,o)=>(pJo en f (rank+1) nest ts.tail).bind fun y r=>if rank=6 then .ok (.mk k o 0 [] [x,y] (nxtP en ts)) r else pLo en f rank nest (.mk k o 0 [] [x,y] (nxtP en ts)) r
def pUn (en:Nat × Nat):Nat→Nat→List Tok→PR Ex
 | 0,_,_=>.er (0,0) 0
 | f+1,nest,ts=>
  if nxtT ts=[45] then pOpen en nest ts fun ns r=>(pUn en f ns r).bind fun x r2=>.ok (.mk 6 20 0 [] [x] (nxtP en ts)) r2
  else if nxtT ts=[33] then pOpen en nest ts fun ns r=>(pUn en f ns r).bind fun x r2=>.ok (.mk 6 21 0 [] [x] (nxtP en ts)) r2
  else pPr en f nest ts
def pPr (en:Nat × Nat):Nat→Nat→List Tok→PR Ex
 | 0,_,_=>.er (0,0) 0
 | f+1,nest,ts=>
  if nxtK ts=3 then .ok (.mk 1 0 (nxtN ts) [] [] (nxtP en ts)) ts.tail
  else if nxtK ts=1 then .ok (.mk 2 0 0 (nxtT ts) [] (nxtP en ts)) ts.tail
  else if nxtT ts=[40] then pBr en nest [40] [41] ts fun ns r=>pWh en f ns r
  else if nxtT ts=wGet then
   (if nxtT ts.tail=[91] then (pBr en nest [91] [93] ts.tail fun ns r=>pWh en f ns r).bind fun x r=>.ok (.mk 5 0 0 [] [x] (nxtP en ts)) r
    else (pBr en nest [40] [41] ts.tail fun _ r=>pName en r).bind fun n r=>.ok (.mk 3 0 0 n.1 [] (nxtP en ts)) r)
  else if nxtT ts=wHas then (pBr en nest [40] [41] ts.tail fun _ r=>pName en r).bind fun n r=>.ok (.mk 4 0 0 n.1 [] (nxtP en ts)) r
  else (pMust en (if nxtT ts=wMax then wMax else wMin) ts).bind fun _ r=>(pBr en nest [40] [41] r fun ns r1=>(pWh en f ns r1).bind fun x r2=>(pMust en [44] r2).bind fun _ r3=>(pWh en f ns r3).bind fun y r4=>.ok (x,y) r4).bind fun xy r5=>.ok (.mk 7 (if nxtT ts=wMax then 29 else 28) 0 [] [xy.1,xy.2] (nxtP en ts)) r5
end
inductive St where
 | mk (kind:Nat) (name:List UInt8) (x y:Ex) (body els:List St) (at_:Nat × Nat)
abbrev ex0:Ex:=.mk 0 0 0 [] [] (0,0)
abbrev NmP:=List UInt8 × (Nat × Nat)
structure PrS where
 name:List UInt8
 args:List NmP
 reads:List NmP
 writes:List NmP
 body:List St
 at_:Nat × Nat
structure SrcS where
 consts:List (List UInt8 × Ex × (Nat × Nat))
 procs:List PrS
def pW (en:Nat × Nat) (nest:Nat) (ts:List Tok):PR Ex:=pWh en (20 * ts.length+20) nest ts
def wLet:List UInt8:=[108,101,116]
def wPut:List UInt8:=[112,117,116]
def wDel:List UInt8:=[100,101,108]
def wOut:List UInt8:=[111,117,116]
def wAbort:List UInt8:=[97,98,111,114,116]
def wStop:List UInt8:=[115,116,111,112]
def wIf:List UInt8:=[105,102]
def wElse:List UInt8:=[101,108,115,101]
def wRepeat:List UInt8:=[114,101,112,101,97,116]
def wConst:List UInt8:=[99,111,110,115,116]
def wProc:List UInt8:=[112,114,111,99]
def wReads:List UInt8:=[114,101,97,100,115]
def wWrites:List UInt8:=[119,114,105,116,101,115]
def pAs (en:Nat × Nat) (nest kind:Nat) (at_:Nat × Nat) (ts:List Tok):PR St:=
 (pName en ts).bind fun nm r=>(pMust en [61] r).bind fun _ r2=>(pW en nest r2).bind fun x r3=>.ok (.mk kind nm.1 x ex0 [] [] at_) r3
def pSi (en:Nat × Nat) (nest:Nat) (ts:List Tok):PR St:=
 if nxtT ts=wLet then pAs en nest 1 (nxtP en ts) ts.tail
 else if nxtT ts=wPut then
  (if nxtT ts.tail=[91] then (pBr en nest [91] [93] ts.tail fun ns r=>pW en ns r).bind fun x r=>(pMust en [61] r).bind fun _ r2=>(pW en nest r2).bind fun y r3=>.ok (.mk 4 [] x y [] [] (nxtP en ts)) r3
   else pAs en nest 3 (nxtP en ts) ts.tail)
 else if nxtT ts=wDel then (pName en ts.tail).bind fun nm r=>.ok (.mk 5 nm.1 ex0 ex0 [] [] (nxtP en ts)) r
 else if nxtT ts=wOut then (pW en nest ts.tail).bind fun x r=>.ok (.mk 6 [] x ex0 [] [] (nxtP en ts)) r
 else if nxtT ts=wAbort then (pW en nest ts.tail).bind fun x r=>.ok (.mk 7 [] x ex0 [] [] (nxtP en ts)) r
 else if nxtT ts=wStop then .ok (.mk 8 [] ex0 ex0 [] [] (nxtP en ts)) ts.tail
 else pAs en nest 2 (nxtP en ts) ts
mutual
def pSs (en:Nat × Nat):Nat→Nat→List St→List Tok→PR (List St)
 | 0,_,_,_=>.er (0,0) 0
 | f+1,nest,acc,ts=>if nxtT ts=[125] then .ok acc ts else (pSt en f nest ts).bind fun s r=>pSs en f nest (acc ++ [s]) r
def pSt (en:Nat × Nat):Nat→Nat→List Tok→PR St
 | 0,_,_=>.er (0,0) 0
 | f+1,nest,ts=>
  if nxtT ts=wIf then pCo en f nest (nxtP en ts) ts.tail
  else if nxtT ts=wRepeat then (pW en nest ts.tail).bind fun x r=>(pBr en nest [123] [125] r fun ns r1=>pSs en f ns [] r1).bind fun b r2=>.ok (.mk 10 [] x ex0 b [] (nxtP en ts)) r2
  else (pSi en nest ts).bind fun s r=>(pMust en [59] r).bind fun _ r2=>.ok s r2
def pCo (en:Nat × Nat):Nat→Nat→(Nat × Nat)→List Tok→PR St
 | 0,_,_,_=>.er (0,0) 0
 | f+1,nest,at_,ts=>(pW en nest ts).bind fun x r=>(pBr en nest [123] [125] r fun ns r1=>pSs en f ns [] r1).bind fun b r2=>
  if nxtT r2=wElse then
   (if nxtT r2.tail=wIf then (pOpen en nest r2.tail fun ns r3=>pCo en f ns (nxtP en r2.tail) r3).bind fun s r4=>.ok (.mk 9 [] x ex0 b [s] at_) r4
    else (pBr en nest [123] [125] r2.tail fun ns r3=>pSs en f ns [] r3).bind fun e r4=>.ok (.mk 9 [] x ex0 b e at_) r4)
  else .ok (.mk 9 [] x ex0 b [] at_) r2
end
def pBlk (en:Nat × Nat) (nest:Nat) (ts:List Tok):PR (List St):=pBr en nest [123] [125] ts fun ns r=>pSs en (20 * ts.length+20) ns [] r
def pNs (en:Nat × Nat):Nat→List NmP→List Tok→PR (List NmP)
 | 0,_,_=>.er (0,0) 0
 | f+1,acc,ts=>if nxtT ts=[44] then (pName en ts.tail).bind fun nm r=>pNs en f (acc ++ [nm]) r else .ok acc ts
def pNames (en:Nat × Nat) (ts:List Tok):PR (List NmP):=(pName en ts).bind fun nm r=>pNs en (ts.length+1) [nm] r
def pOpt (en:Nat × Nat) (w:List UInt8) (ts:List Tok):PR (List NmP):=if nxtT ts=w then pNames en ts.tail else .ok [] ts
def pProc (en:Nat × Nat) (ts:List Tok):PR PrS:=
 (pName en ts).bind fun nm r=>(pBr en 0 [40] [41] r fun _ r1=>if nxtT r1=[41] then .ok [] r1 else pNames en r1).bind fun ags r2=>
  (pOpt en wReads r2).bind fun rs r3=>(pOpt en wWrites r3).bind fun ws r4=>(pBlk en 0 r4).bind fun b r5=>.ok ⟨nm.1,ags,rs,ws,b,nm.2⟩ r5
def pConst (en:Nat × Nat) (ts:List Tok):PR (List UInt8 × Ex × (Nat × Nat)):=
 (pName en ts).bind fun nm r=>(pMust en [61] r).bind fun _ r2=>(pW en 0 r2).bind fun x r3=>(pMust en [59] r3).bind fun _ r4=>.ok (nm.1,x,nm.2) r4
def pSrc (en:Nat × Nat):Nat→SrcS→List Tok→PR SrcS
 | 0,_,_=>.er (0,0) 0
 | f+1,acc,ts=>
  if ts=[] then .ok acc []
  else if nxtT ts=wConst then (pConst en ts.tail).bind fun c r=>pSrc en f { acc with consts:=acc.consts ++ [c] } r
  else (pMust en wProc ts).bind fun _ r=>(pProc en r).bind fun p r2=>pSrc en f { acc with procs:=acc.procs ++ [p] } r2
inductive SR where
 | ok (s:SrcS)
 | er (p:Nat × Nat) (e:Nat)
def parseL (L:List UInt8):SR:=match tksA L with
 | .er p e=>.er p e
 | .ok ts=>match pSrc (spL (1,1) L) (ts.length+1) ⟨[],[]⟩ ts with
  | .er p e=>.er p e
  | .ok s _=>.ok s
end Go.Proofs.YtlfooogmoigpfaaGreatDoor
namespace Go.Proofs.YtlfooogmoigpfaaGreatDoor
open Go.RowKit Go.Sort Go.Shelf
theorem idxByte_any (w:World) (s:ByteArray) (c:Int):Calls Tryz.prog 138 #[.string s,.int .u8 c] w fun e w'=>e=.returned (Zi (Lib.indexByte s.data.toList c.toNat.toUInt8))∧w'=w:=Any.strings_IndexByte { lays152 with } s c w
theorem validRune_any (w:World) (r:Int):Calls Tryz.prog 139 #[.int .i32 r] w fun e w'=>e=.returned (.bool (Lib.validRune r))∧w'=w:=Any.utf8_ValidRune { lays152 with } r w
theorem indexByte_hi:∀(l:List UInt8) (c:UInt8),(∀b∈l,b≠c)→Lib.indexByte l c = -1
 | [],_,_=>rfl
 | b :: l,c,h=>by
  have h1:(b == c)=false:=beq_eq_false_iff_ne.2 (h b (by simp))
  have h2:=indexByte_hi l c (fun d hd=>h d (by simp[hd]))
  unfold Lib.indexByte
  rw[h1,h2]
  rfl
theorem indexRune_lo (w:World) (l:List UInt8) (r:Nat) (h:r < 128):Calls Tryz.prog 123 #[.string (S l),.int .i32 (r:Int)] w fun e w'=>e=.returned (Zi (Lib.indexByte l (UInt8.ofNat r)))∧w'=w:=by
 have h1:Calls Tryz.prog 123 #[.string (S l),.int .i32 (r:Int)] w _:=Any.strings_IndexRune_ascii lays152 (S l) (r:Int) w (by omega) (by omega)
 rw[S_list] at h1
 exact h1
theorem indexRune_hi (w:World) (l:List UInt8) (hl:l.length≤1000) (ha:∀b∈l,b.toNat < 128) (r:Nat) (h:128≤r) (h2:r≤2147483647):Calls Tryz.prog 123 #[.string (S l),.int .i32 (r:Int)] w fun e w'=>e=.returned (Zi (-1))∧Grew w w':=by
 have HG:Hid (Grew w w):=Grew.refl w
 have HA:=Zh ha
 obtain⟨n,hn⟩:=nm (l.length)
 have HN:=Zh hn
 have hsz:(S l).size=n:=by rw[S_size,hn]
 have HSz:=Zh hsz
 have hn9:n≤1000:=by omega
 have hrI:(128:Int)≤(r:Int):=by omega
 have hrJ:(r:Int)≤2147483647:=by omega
 have hrK:¬(r:Int) < 128:=by omega
 clear hn hl ha
 by_cases he:r=65533
 ·subst he
  have HG2:Hid (∀k,Grew w (w.iter (S l) k)):=fun k=>(Grew.refl w).alloc _
  clear h h2 hrI hrJ hrK
  go_enter Tryz.func123,Tryz.ntmps123
  go_wp2_with fail
  go_loopw[] (fun wr=>∃(k:Nat),k≤n∧wr=w.iter (S l) k) (fun wr=>n - wr.iterPos w.heap.size)
  case atStart=>exact⟨0,Nat.zero_le _,rfl⟩
  case round=>
   obtain⟨k,hk,rfl⟩:=hrel
   by_cases hlt:k < n
   ·have hkl:k < l.length:=by rw[← HN.out];exact hlt
    have hnx:=fun ty=>run_next_any (P:=Tryz.prog) w (S l) k ty (by rw[HSz.out];exact hlt)
    have h128:l[k].toNat < 128:=HA.out _ (List.getElem_mem hkl)
    have hd:Utf8.decode (S l) k=(l[k].toNat,1):=by
     rcases sgn_at l k hkl with h1 | h1
     ·exact h1.2
     ·omega
    rw[hd] at hnx
    obtain⟨c,hc⟩:=nm (l[k].toNat)
    rw[← hc] at hnx h128
    simp only at hnx
    have hq:((c:Int) == 65533)=false:=by simp;omega
    clear hd hc
    go_wp2_with fail
    go_roundw
    case rel=>exact⟨k+1,by omega,rfl⟩
    case measure=>simp only[World.iterPos_iter];omega
   ·have hke:k=n:=by omega
    subst hke
    have hnx:=fun ty=>run_next_end (P:=Tryz.prog) w (S l) k ty (by rw[HSz.out];omega)
    have HG3:=Zh (HG2.out k)
    go_wp2
    go_ret
    exact⟨rfl,HG3.out⟩
 ·have hq:((r:Int) == 65533)=false:=by simp;omega
  clear he
  obtain⟨v,hv⟩:=nm (Lib.validRune (r:Int))
  have HV:Hid (∀W,Calls Tryz.prog 139 #[.int .i32 (r:Int)] W fun e w'=>e=.returned (.bool v)∧w'=W):=fun W=>by rw[hv];exact validRune_any W r
  have HVv:Hid (v=Utf8.valid (r:Int)):=by show _=_;rw[hv,validRune_eq];simp only[Lib.validRune,validRune]
  clear hv
  cases v with
  | false=>
   clear HVv h h2
   go_enter Tryz.func123,Tryz.ntmps123
   go_wp2_with (first | (go_at_call 139;refine (HV.out _).mono ?_;rintro e wE ⟨rfl,hwE⟩;have hwE':=hwE.symm;subst hwE';clear hwE))
   go_ret
   exact⟨rfl,HG.out⟩
  | true=>
   have hf:=encode_facts (r:Int) HVv.out.symm hrI
   obtain⟨e,he⟩:=nm (Utf8.encode (r:Int))
   rw[← he] at hf
   obtain⟨hf1,hf2,hf3⟩:=hf
   obtain⟨k,hsm⟩:∃k,e.size=k+1:=⟨e.size - 1,by omega⟩
   have hke:k < e.size:=by omega
   obtain⟨d,hd⟩:=nm ((e[k]'hke).toNat)
   have hd128:128≤d:=by
    have h5:=hf3 (by omega)
    have h6:e[e.size - 1]'(by omega)=e[k]'hke:=by congr 1;omega
    rw[hd,← h6];exact h5
   have hd256:d < 256:=by have:=UInt8.toNat_lt (e[k]'hke);omega
   have HIx:Hid (∀W b,Calls Tryz.prog 138 #[.string ((S l).extract b n),.int .u8 (d:Int)] W fun e w'=>e=.returned (Zi (-1))∧w'=W):=fun W b=>by
    refine (idxByte_any W ((S l).extract b n) (d:Int)).mono fun e w' ⟨a1,a2⟩=>⟨?_,a2⟩
    rw[a1,indexByte_hi _ _ (fun x hx=>?_)]
    rw[S_cut,S_list] at hx
    have:=HA.out x (List.mem_of_mem_take (List.mem_of_mem_drop hx))
    intro e
    rw[e] at this
    simp at this
    omega
   have hek:(e[k]'hke).toNat=d:=hd.symm
   have HS1:Hid (∀(i:Nat) (hi:i < (S l).size),((S l)[i]'hi).toNat < 128):=fun i hi=>by
    have hi':i < l.length:=by rw[S_size] at hi;exact hi
    rw[S_get l i hi]
    exact HA.out _ (List.getElem_mem hi')
   have HE:Hid (e=Utf8.encode (r:Int)):=he
   have hk3:k≤3:=by omega
   have hcv:∀W,(convert 21 9 (.int .i32 (r:Int))).run Tryz.prog W=.ok (.string e) W:=fun W=>by rw[he];exact run_convert_int_string W 21 9 .i32 (r:Int) (by kernel_rfl) Tryz.underlying9
   obtain⟨m,hm⟩:=nm (k+1)
   rw[← hm] at hsm
   have hw2:IntKind.i64.wrap ((m:Int) - 1)=(k:Int):=by rw[IntKind.wrap_i64];omega
   have hkm:(k:Int) < (m:Int):=by omega
   clear hm he hf1 hf2 hf3 hd h h2 HVv
   go_enter Tryz.func123,Tryz.ntmps123
   go_wp2_with (first | (go_at_call 139;refine (HV.out _).mono ?_;rintro e wE ⟨rfl,hwE⟩;have hwE':=hwE.symm;subst hwE';clear hwE))
   go_step3
   go_wp2_with fail
   go_loopw[9,10] (fun x y wr=>x=Zi (k:Int)∧y=Zi 0∧wr=w) (fun _ _ _=>0)
   case atStart=>exact⟨rfl,rfl,rfl⟩
   case round=>
    obtain⟨rfl,rfl,hwe⟩:=hrel
    subst hwe
    by_cases hlt:k < n
    ·have hkS:k < (S l).size:=by rw[HSz.out];exact hlt
     obtain⟨c,hc⟩:=nm (((S l)[k]'hkS).toNat)
     have hc128:c < 128:=by rw[hc];exact HS1.out k hkS
     have hck:((S l)[k]'hkS).toNat=c:=hc.symm
     have hne:((c:Int) != (d:Int))=true:=by simp;omega
     have hkI:(k:Int) < (n:Int):=by omega
     have hw3:IntKind.i64.wrap ((k:Int)+1)=(k:Int)+1:=by rw[IntKind.wrap_i64];omega
     have hkn:(k:Int)+1≤(n:Int):=by omega
     have hk0:(0:Int)≤(k:Int)+1:=by omega
     have hkt:((k:Int)+1).toNat=k+1:=by omega
     clear hc
     go_wp2_with fail
     go_step3
     go_wp2_with fail
     go_quiet (fail)
     have HG7:Hid (Grew wr (wr.drewN nq)):=HG.out.drewN _
     generalize wr.drewN nq=W7 at *
     go_wp2_with fail
     go_quiet ((go_at_call 138;exact Calls.quiet_of_same (HIx.out _ _)))
     go_wp2_with fail
     simp (config:={ zetaDelta:=true }) only [Exit.noGoto_ret,Exit.inBlock,Exit.then]
     go_ret
     exact⟨rfl,HG7.out.drewN _⟩
    ·have hkI:¬(k:Int) < (n:Int):=by omega
     go_wp2_with fail
     go_ret
     exact⟨rfl,HG.out⟩
def TabsOK (w:World):Prop:=Lib.Utf8Tabs 3 4 w
theorem TabsOK.kept {w w':World} (h:TabsOK w) (hb:Below w.heap.size w w'):TabsOK w':=
 ⟨fun c hc=>(hb.cell (cell_lt (h.1 c hc))).trans (h.1 c hc),fun i hi=>⟨(hb.cell (cell_lt (h.2 i hi).1)).trans (h.2 i hi).1,(hb.cell (cell_lt (h.2 i hi).2)).trans (h.2 i hi).2⟩⟩
def dcR (l:List UInt8):Nat:=(Lib.decodeGo (S l)).1
theorem dcR_le (l:List UInt8):dcR l≤2147483647:=by
 unfold dcR Lib.decodeGo
 split
 ·decide
 ·exact decode_le _ _
theorem dcR_lo {c:UInt8} {r:List UInt8} (h:c.toNat < 128):dcR (c :: r)=c.toNat:=by
 unfold dcR Lib.decodeGo
 rw[if_neg (by rw[S_size];simp)]
 rcases sgn_at (c :: r) 0 (by simp) with h1 | h1
 ·rw[h1.2];rfl
 ·have:=h1.1;simp only[List.getElem_cons_zero] at this;omega
theorem dcR_hi {c:UInt8} {r:List UInt8} (h:128≤c.toNat):128≤dcR (c :: r):=by
 unfold dcR Lib.decodeGo
 rw[if_neg (by rw[S_size];simp)]
 rcases sgn_at (c :: r) 0 (by simp) with h1 | h1
 ·have:=h1.1;simp only[List.getElem_cons_zero] at this;omega
 ·exact h1.2.1
theorem decode_any (w:World) (l:List UInt8) (hT:TabsOK w):Calls Tryz.prog 65 #[.string (S l)] w fun e w'=>e=.returned (.tuple #[.int .i32 (dcR l:Nat),Zi ((Lib.decodeGo (S l)).2:Nat)])∧Below w.heap.size w w':=Any.utf8_DecodeRuneInString lays197 (S l) w hT
theorem idx_contains:∀(l:List UInt8) (c:UInt8),decide (0≤Lib.indexByte l c)=l.contains c
 | [],_=>rfl
 | b :: l,c=>by
  have ih:=idx_contains l c
  have h1:=Lib.indexByte_ge l c
  unfold Lib.indexByte
  rw[List.contains_cons]
  by_cases hb:b=c
  ·subst hb;simp
  ·have e1:(b == c)=false:=beq_eq_false_iff_ne.2 hb
   have e2:(c == b)=false:=beq_eq_false_iff_ne.2 (fun e=>hb e.symm)
   rw[e1,e2,← ih]
   simp only[Bool.false_eq_true,if_false,Bool.false_or,beq_iff_eq]
   split
   ·rename_i h3;rw[h3]
   ·exact decide_eq_decide.2 (by omega)
theorem containsRune_any (w:World) (l:List UInt8) (hl:l≠[]):Calls Tryz.prog 103 #[.string (S shortL),.int .i32 (dcR l:Nat)] w fun e w'=>e=.returned (.bool (decide (shN l=1)))∧Grew w w':=by
 obtain⟨c,r,rfl⟩:=List.exists_cons_of_ne_nil hl
 obtain⟨d,hd⟩:=nm (dcR (c :: r))
 rw[← hd]
 have HI:Hid (∃x:Int,decide (0≤x)=decide (shN (c :: r)=1)∧Calls Tryz.prog 123 #[.string (S shortL),.int .i32 (d:Int)] w fun e w'=>e=.returned (Zi x)∧Grew w w'):=by
  by_cases h:c.toNat < 128
  ·refine⟨Lib.indexByte shortL (UInt8.ofNat d),?_,(indexRune_lo w shortL d (by rw[hd,dcR_lo h];exact h)).mono fun e w' ⟨a1,a2⟩=>⟨a1,by rw[a2];exact Grew.refl w⟩⟩
   rw[idx_contains,hd,dcR_lo h]
   have e:UInt8.ofNat c.toNat=c:=by simp
   rw[e]
   rw[show shN (c :: r)=if shortL.contains c=true then 1 else 0 from rfl]
   cases shortL.contains c <;> rfl
  ·refine⟨-1,?_,indexRune_hi w shortL (by decide) (by decide) d (by rw[hd];exact dcR_hi (by omega)) (by rw[hd];exact dcR_le _)⟩
   have e:shN (c :: r)=0:=by
    unfold shN
    have h1:shortL.contains c=false:=by
     cases hc:shortL.contains c with
     | false=>rfl
     | true=>
      exfalso
      have h2:∀b∈shortL,b.toNat < 128:=by decide
      exact h (h2 c (List.contains_iff_mem.1 hc))
    simp only[h1,Bool.false_eq_true,if_false]
   rw[e]
   rfl
 generalize decide (shN (c :: r)=1)=b at *
 obtain⟨x,hx,HC⟩:=HI.out
 clear HI hd hl
 have HC2:=Zh HC
 clear HC
 have hx2:decide (x≥0)=b:=hx
 clear hx
 go_enter Tryz.func103,Tryz.ntmps103
 go_wp2_with fail
 refine HC2.out.mono ?_
 rintro e w2 ⟨rfl,hg⟩
 have HG:=Zh hg
 clear hg
 by_cases h0:0≤x
 ·have hb:b=true:=by rw[← hx2];exact decide_eq_true h0
  subst hb
  clear hx2
  go_wp2
  go_ret
  exact⟨rfl,HG.out⟩
 ·have hb:b=false:=by rw[← hx2];exact decide_eq_false h0
  subst hb
  clear hx2
  go_wp2
  go_ret
  refine⟨?_,HG.out⟩
  show Ending.returned (.bool (decide (0≤x)))=_
  rw[decide_eq_false (by omega)]
def pairC:List Value:=[.string ⟨#[61,61]⟩,.string ⟨#[33,61]⟩,.string ⟨#[60,61]⟩,.string ⟨#[62,61]⟩,.string ⟨#[60,60]⟩,.string ⟨#[62,62]⟩,.string ⟨#[38,38]⟩,.string ⟨#[124,124]⟩]
def PairVar (w:World):Prop:=∀i,i < 8→w.cell? ⟨1,i,none⟩=pairC[i]?
theorem PairVar.kept {w w':World} (h:PairVar w) (hb:Below w.heap.size w w'):PairVar w':=fun i hi=>by
 have h1:=h i hi
 have h2:pairC[i]? = some (pairC[i]'(by simpa [pairC] using hi)):=List.getElem?_eq_getElem _
 rw[h2] at h1 ⊢
 exact (hb.cell (cell_lt h1)).trans h1
theorem pairs_index (i:Nat) (hi:i < 8) (W:World):(Instr.index 161 (.agg #[.string ⟨#[61,61]⟩,.string ⟨#[33,61]⟩,.string ⟨#[60,61]⟩,.string ⟨#[62,61]⟩,.string ⟨#[60,60]⟩,.string ⟨#[62,62]⟩,.string ⟨#[38,38]⟩,.string ⟨#[124,124]⟩]) (Zi (i:Int))).run Tryz.prog W=.ok (.string (S pairL[i]!)) W:=by
 obtain rfl | rfl | rfl | rfl | rfl | rfl | rfl | rfl:i=0∨i=1∨i=2∨i=3∨i=4∨i=5∨i=6∨i=7:=by omega
 all_goals kernel_rfl
theorem sgN_hit {l:List UInt8} {i:Nat} (hi:i < 8) (h:pairL[i]!.isPrefixOf l=true):sgN l=2∧l.take 2=pairL[i]!:=by
 have hm:pairL[i]!∈pairL:=by
  have hl:i < pairL.length:=hi
  rw[getElem!_pos pairL i hl]
  exact List.getElem_mem hl
 have h2:pairL[i]!.length=2:=by
  have:∀p∈pairL,p.length=2:=by decide
  exact this _ hm
 constructor
 ·unfold sgN
  rw[if_pos (List.any_eq_true.2 ⟨_,hm,h⟩)]
 ·obtain⟨r,hr⟩:=List.isPrefixOf_iff_prefix.1 h
  rw[← hr,← h2,List.take_left]
theorem sgN_miss {l:List UInt8} (h:∀i,i < 8→pairL[i]!.isPrefixOf l=false):sgN l=shN l:=by
 unfold sgN
 rw[if_neg]
 intro he
 obtain⟨p,hp,h2⟩:=List.any_eq_true.1 he
 obtain⟨i,hi,rfl⟩:=List.getElem_of_mem hp
 have:=h i hi
 rw[getElem!_pos pairL i hi] at this
 rw[this] at h2
 cases h2
def sgT (l:List UInt8):List UInt8:=if [47,42].isPrefixOf l then [] else l.take (sgN l)
theorem signAhead_any (w:World) (l:List UInt8) (hl:l≠[]) (hl9:l.length≤65536) (hv:PairVar w):Calls Tryz.prog 72 #[.string (S l),.int .i32 (dcR l:Nat)] w fun e w'=>e=.returned (.string (S (sgT l)))∧Grew w w':=by
 have HP:Hid (∀W p,Calls Tryz.prog 96 #[.string (S l),.string (S p)] W fun e w'=>e=.returned (.bool (p.isPrefixOf l))∧w'=W):=fun W p=>hasPre_any W l p
 have HP0:Hid (Calls Tryz.prog 96 #[.string (S l),.string ⟨#[47,42]⟩] w fun e w'=>e=.returned (.bool ([47,42].isPrefixOf l))∧w'=w):=hasPre_any w l [47,42]
 have HC:Hid (Calls Tryz.prog 103 #[.string ⟨#[61,60,62,43,45,42,47,37,38,124,94,33,63,58,59,44,40,41,123,125,91,93]⟩,.int .i32 (dcR l:Nat)] w fun e w'=>e=.returned (.bool (decide (shN l=1)))∧Grew w w'):=containsRune_any w l hl
 have HS:Hid (sgT l=if [47,42].isPrefixOf l then [] else l.take (sgN l)):=rfl
 have HG:Hid (Grew w w):=Grew.refl w
 have v0:=hv 0 (by omega)
 have v1:=hv 1 (by omega)
 have v2:=hv 2 (by omega)
 have v3:=hv 3 (by omega)
 have v4:=hv 4 (by omega)
 have v5:=hv 5 (by omega)
 have v6:=hv 6 (by omega)
 have v7:=hv 7 (by omega)
 simp only[pairC,List.getElem?_cons_zero,List.getElem?_cons_succ] at v0 v1 v2 v3 v4 v5 v6 v7
 have HN:Hid (0 < l.length):=by
  show 0 < l.length
  exact List.length_pos_iff.2 hl
 obtain⟨n,hn⟩:=nm (l.length)
 have hsz:(S l).size=n:=by rw[S_size,hn]
 have hn1:(1:Int)≤(n:Int):=by have:=HN.out;omega
 have hn2:n≤65536:=by omega
 have x1:(S l).extract 0 1=S (l.take 1):=by rw[S_cut,List.drop_zero]
 clear hv hl hl9 hn HN
 generalize hb0:[47,42].isPrefixOf l=b0 at *
 generalize hd:dcR l=d at *
 clear hb0 hd
 cases b0 with
 | true=>
  have e:sgT l=[]:=by have h:=HS.out;simpa using h
  rw[e]
  clear HS e HC
  go_enter Tryz.func72,Tryz.ntmps72
  go_wp2_with (first | (go_at_call 96;refine HP0.out.mono ?_;rintro e wE ⟨rfl,hwE⟩;have hwE':=hwE.symm;subst hwE';clear hwE))
  go_ret
  exact⟨rfl,HG.out⟩
 | false=>
  have HS2:Hid (sgT l=l.take (sgN l)):=by have h:=HS.out;show _=_;simpa using h
  clear HS
  go_enter Tryz.func72,Tryz.ntmps72
  go_wp2_with (first | (go_at_call 96;refine HP0.out.mono ?_;rintro e wE ⟨rfl,hwE⟩;have hwE':=hwE.symm;subst hwE';clear hwE))
  clear v0 v1 v2 v3 v4 v5 v6 v7 HP0
  go_loopw[10] (fun x wr=>∃(i:Nat),i≤8∧x=Zi (i:Int)∧wr=w∧Hid (∀j,j < i→pairL[j]!.isPrefixOf l=false)) (fun x _=>8 - (intOf x).toNat)
  case atStart=>exact⟨0,by omega,rfl,rfl,fun j hj=>by omega⟩
  case round=>
   obtain⟨i,hi,rfl,hwe,HI⟩:=hrel
   subst hwe
   by_cases hlt:i < 8
   ·have hiI:(i:Int) < 8:=by omega
    have hix:=pairs_index i hlt
    have HP1:=Zh (HP.out wr pairL[i]!)
    have HI2:Hid (pairL[i]!.isPrefixOf l=true→sgN l=2∧l.take 2=pairL[i]!):=fun h=>sgN_hit hlt h
    generalize hp:pairL[i]! = p at *
    generalize hb:p.isPrefixOf l=b at *
    cases b with
    | true=>
     have HF:Hid (sgT l=p):=by
      have h:=HI2.out rfl
      show _=_
      rw[HS2.out,h.1,h.2]
     clear HI2 HI HS2 hb hp
     go_wp2_with (first | (go_at_call 96;refine HP1.out.mono ?_;rintro e wE ⟨rfl,hwE⟩;have hwE':=hwE.symm;subst hwE';clear hwE))
     go_ret
     exact⟨by rw[HF.out];rfl,HG.out⟩
    | false=>
     have HI3:Hid (∀j,j < i+1→pairL[j]!.isPrefixOf l=false):=fun j hj=>by
      by_cases hj2:j < i
      ·exact HI.out j hj2
      ·obtain rfl:j=i:=by omega
       rw[hp];exact hb
     clear HI2 HI hb hp
     go_wp2_with (first | (go_at_call 96;refine HP1.out.mono ?_;rintro e wE ⟨rfl,hwE⟩;have hwE':=hwE.symm;subst hwE';clear hwE))
     go_roundw
     case rel=>exact⟨i+1,by omega,by go_num,trivial,HI3⟩
     case measure=>simp[intOf];omega
   ·have hiI:¬(i:Int) < 8:=by omega
    have HF:Hid (sgT l=l.take (shN l)):=by
     show _=_
     rw[HS2.out,sgN_miss (fun j hj=>HI.out j (by omega))]
    have h01:shN l=0∨shN l=1:=by
     unfold shN
     cases l with
     | nil=>exact .inl rfl
     | cons c r=>simp only;split <;> simp
    clear HI HS2
    generalize shN l=z at *
    rcases h01 with rfl | rfl
    ·have HC2:Hid (Calls Tryz.prog 103 #[.string ⟨#[61,60,62,43,45,42,47,37,38,124,94,33,63,58,59,44,40,41,123,125,91,93]⟩,.int .i32 (d:Nat)] wr fun e w'=>e=.returned (.bool false)∧Grew wr w'):=HC.out
     clear HC
     go_wp2_with fail
     refine HC2.out.mono ?_
     rintro e w2 ⟨rfl,hg⟩
     have HG2:=Zh hg
     clear hg
     go_wp2_with fail
     go_ret
     exact⟨by rw[HF.out];rfl,HG2.out⟩
    ·have HC2:Hid (Calls Tryz.prog 103 #[.string ⟨#[61,60,62,43,45,42,47,37,38,124,94,33,63,58,59,44,40,41,123,125,91,93]⟩,.int .i32 (d:Nat)] wr fun e w'=>e=.returned (.bool true)∧Grew wr w'):=HC.out
     clear HC
     go_wp2_with fail
     refine HC2.out.mono ?_
     rintro e w2 ⟨rfl,hg⟩
     have HG2:=Zh hg
     clear hg
     go_wp2_with fail
     go_ret
     exact⟨by rw[HF.out];rfl,HG2.out⟩
end Go.Proofs.YtlfooogmoigpfaaGreatDoor
namespace Go.Proofs.YtlfooogmoigpfaaGreatDoor
open Go.RowKit
def b8 (z:Nat):Value:=.int .u8 (z:Int)
end Go.Proofs.YtlfooogmoigpfaaGreatDoor
