import Derived.Test.YtlfooogmoigpfaaGreatDoorQaa
import Derived.Test.YtlfooogmoigpfaaGreatDoorQab
import Derived.Test.YtlfooogmoigpfaaGreatDoorQac
import Derived.Laws.Tables
import Derived.Deep.MidRow
import Derived.Deep.QuietTactic
import Derived.BigQuiet
import Derived.Lib.ItoaMem
set_option maxRecDepth 100000
set_option maxHeartbeats 8000000
namespace Go.Proofs.YtlfooogmoigpfaaGreatDoor
open Go.RowKit Go.Sort
theorem rblank_any (w:World) (c:Nat) (_hc:c≤255):Calls Tryz.prog 52 #[.int .u8 (c:Int)] w fun e w'=>e=.returned (.bool (blC c))∧w'=w:=by
 unfold blC
 by_cases h32:c=32
 ·subst h32
  go_enter Tryz.func52,Tryz.ntmps52
  go_wp2
  go_ret
  exact⟨rfl,rfl⟩
 by_cases h9:c=9
 ·subst h9
  go_enter Tryz.func52,Tryz.ntmps52
  go_wp2
  go_ret
  exact⟨rfl,rfl⟩
 by_cases h13:c=13
 ·subst h13
  go_enter Tryz.func52,Tryz.ntmps52
  go_wp2
  go_ret
  exact⟨rfl,rfl⟩
 by_cases h10:c=10
 ·subst h10
  go_enter Tryz.func52,Tryz.ntmps52
  go_wp2
  go_ret
  exact⟨rfl,rfl⟩
 have q1:((c:Int) == 32)=false:=by simp;omega
 have q2:((c:Int) == 9)=false:=by simp;omega
 have q3:((c:Int) == 13)=false:=by simp;omega
 have q4:((c:Int) == 10)=false:=by simp;omega
 rw[show (decide (c=32) || decide (c=9) || decide (c=13) || decide (c=10))=false by simp[h32,h9,h13,h10]]
 clear h32 h9 h13 h10
 go_enter Tryz.func52,Tryz.ntmps52
 go_wp2
 go_ret
 exact⟨rfl,rfl⟩
theorem rdigit_any (w:World) (c:Nat) (_hc:c≤255):Calls Tryz.prog 29 #[.int .u8 (c:Int)] w fun e w'=>e=.returned (.bool (diC c))∧w'=w:=by
 have q1:decide ((c:Int)≥48)=decide (48≤c):=by simp;omega
 have q2:decide ((c:Int)≤57)=decide (c≤57):=by simp;omega
 unfold diC
 by_cases h1:48≤c
 ·have p1:(c:Int)≥48:=by omega
  rw[decide_eq_true h1]
  by_cases h2:c≤57
  ·have p2:(c:Int)≤57:=by omega
   rw[decide_eq_true h2]
   clear q1 q2 h1 h2
   go_enter Tryz.func29,Tryz.ntmps29
   go_wp2
   go_ret
   exact⟨rfl,rfl⟩
  ·have p2:¬(c:Int)≤57:=by omega
   rw[decide_eq_false h2]
   clear q1 q2 h1 h2
   go_enter Tryz.func29,Tryz.ntmps29
   go_wp2
   go_ret
   exact⟨rfl,rfl⟩
 ·have p1:¬(c:Int)≥48:=by omega
  rw[decide_eq_false h1]
  clear q1 q2 h1
  go_enter Tryz.func29,Tryz.ntmps29
  go_wp2
  go_ret
  exact⟨by simp,rfl⟩
theorem rletter_any (w:World) (c:Nat) (_hc:c≤255):Calls Tryz.prog 53 #[.int .u8 (c:Int)] w fun e w'=>e=.returned (.bool (leC c))∧w'=w:=by
 by_cases h1:97≤c
 ·have p1:(c:Int)≥97:=by omega
  by_cases h2:c≤122
  ·have p2:(c:Int)≤122:=by omega
   have e:leC c=true:=by simp[leC,h1,h2]
   rw[e]
   clear h1 h2 e
   go_enter Tryz.func53,Tryz.ntmps53
   go_wp2
   go_ret
   exact⟨rfl,rfl⟩
  ·have p2:¬(c:Int)≤122:=by omega
   have p3:(c:Int)≥65:=by omega
   have p4:¬(c:Int)≤90:=by omega
   have e:leC c=false:=by simp[leC];omega
   rw[e]
   clear h1 h2 e
   go_enter Tryz.func53,Tryz.ntmps53
   go_wp2
   go_ret
   exact⟨rfl,rfl⟩
 ·have p1:¬(c:Int)≥97:=by omega
  by_cases h2:65≤c
  ·have p3:(c:Int)≥65:=by omega
   by_cases h3:c≤90
   ·have p4:(c:Int)≤90:=by omega
    have e:leC c=true:=by simp[leC,h2,h3]
    rw[e]
    clear h1 h2 h3 e
    go_enter Tryz.func53,Tryz.ntmps53
    go_wp2
    go_ret
    exact⟨rfl,rfl⟩
   ·have p4:¬(c:Int)≤90:=by omega
    have e:leC c=false:=by simp[leC];omega
    rw[e]
    clear h1 h2 h3 e
    go_enter Tryz.func53,Tryz.ntmps53
    go_wp2
    go_ret
    exact⟨rfl,rfl⟩
  ·have p3:¬(c:Int)≥65:=by omega
   have e:leC c=false:=by simp[leC];omega
   rw[e]
   clear h1 h2 e
   go_enter Tryz.func53,Tryz.ntmps53
   go_wp2
   go_ret
   exact⟨rfl,rfl⟩
theorem rwordly_any (w:World) (c:Nat) (hc:c≤255):Calls Tryz.prog 27 #[.int .u8 (c:Int)] w fun e w'=>e=.returned (.bool (woC c))∧w'=w:=by
 have HL:=Zh (rletter_any w c hc)
 have HD:=Zh (rdigit_any w c hc)
 unfold woC
 generalize leC c=a at *
 generalize diC c=b at *
 by_cases h:c=95
 ·rw[decide_eq_true h]
  have q:(c:Int)=95:=by omega
  rw[q] at HL HD ⊢
  clear h q hc
  cases a <;> cases b
  all_goals
   go_enter Tryz.func27,Tryz.ntmps27
   go_wp2_with (first | (go_at_call 53;refine HL.out.mono ?_;rintro e wE ⟨rfl,hwE⟩;have hwE':=hwE.symm;subst hwE';clear hwE) | (go_at_call 29;refine HD.out.mono ?_;rintro e wE ⟨rfl,hwE⟩;have hwE':=hwE.symm;subst hwE';clear hwE))
   go_ret
   exact⟨rfl,rfl⟩
 ·rw[decide_eq_false h]
  have q:((c:Int) == 95)=false:=by simp;omega
  clear h hc
  cases a <;> cases b
  all_goals
   go_enter Tryz.func27,Tryz.ntmps27
   go_wp2_with (first | (go_at_call 53;refine HL.out.mono ?_;rintro e wE ⟨rfl,hwE⟩;have hwE':=hwE.symm;subst hwE';clear hwE) | (go_at_call 29;refine HD.out.mono ?_;rintro e wE ⟨rfl,hwE⟩;have hwE':=hwE.symm;subst hwE';clear hwE))
   go_ret
   exact⟨rfl,rfl⟩
end Go.Proofs.YtlfooogmoigpfaaGreatDoor
namespace Go.Proofs.YtlfooogmoigpfaaGreatDoor
open Go.RowKit Go.Sort Go.Shelf
def ovE (l:List UInt8) (a:Nat):Nat:=a+KL (l.drop a)
def ovB (l:List UInt8) (a:Nat):Bool:=!([47,42].isPrefixOf (l.drop (ovE l a)))
theorem over_any (w:World) (l:List UInt8) (a:Nat) (ha:a≤l.length) (hl:l.length≤65536) :
  Calls Tryz.prog 25 #[.string (S l),Zi (a:Int)] w fun e w'=>e=.returned (.tuple #[Zi (ovE l a:Nat),.bool (ovB l a)])∧w'=w:=by
 obtain⟨n,hn⟩:=nm (l.length)
 have HN:=Zh hn
 have hsz:(S l).size=n:=by rw[S_size,hn]
 have hn9:n≤65536:=by omega
 have ha9:a≤n:=by omega
 clear hn hl ha
 go_enter Tryz.func25,Tryz.ntmps25
 go_wp2_with fail
 go_loopw[1,6] (fun x _ wr=>∃(k:Nat),a≤k∧k≤n∧x=Zi (k:Int)∧wr=w∧Hid (ovE l a=k+KL (l.drop k))) (fun x _ _=>n - (intOf x).toNat)
 case atStart=>exact⟨a,Nat.le_refl _,ha9,rfl,rfl,rfl⟩
 case round=>
  obtain⟨k,hak,hkn,rfl,rfl,HI⟩:=hrel
  by_cases hlt:k < n
  ·have hkl:k < l.length:=by rw[← HN.out];exact hlt
   have hz:k < (S l).size:=by rw[hsz];exact hlt
   obtain⟨c,hc⟩:=nm (l[k].toNat)
   have hget:((S l)[k]'hz).toNat=c:=by rw[hc];exact congrArg UInt8.toNat (S_get l k hz)
   have hc9:c≤255:=by rw[hc];have:=l[k].toNat_lt;omega
   have HBl:Hid (∀W,Calls Tryz.prog 52 #[.int .u8 (c:Int)] W fun e w'=>e=.returned (.bool (blC c))∧w'=W):=fun W=>rblank_any W c hc9
   have HC:=Zh hc
   obtain⟨bb,hbb⟩:=nm (blC c)
   rw[← hbb] at HBl
   cases bb with
   | true=>
    have HF:Hid (ovE l a=(k+1)+KL (l.drop (k+1))):=by
     show _=_
     have e2:KL (l.drop k)=1+KL (l.drop (k+1)):=by
      rw[List.drop_eq_getElem_cons hkl]
      exact KL_blank ((congrArg blC HC.out.symm).trans hbb.symm)
     rw[HI.out,e2]
     omega
    clear hbb hc HI
    go_wp2_with (first | (go_at_call 52;refine (HBl.out _).mono ?_;rintro e wE ⟨rfl,hwE⟩;have hwE':=hwE.symm;subst hwE';clear hwE))
    go_roundw
    case rel=>exact⟨k+1,by omega,by omega,by go_num,trivial,HF⟩
    case measure=>simp[intOf];omega
   | false=>
    have HBB:=Zh hbb
    by_cases h47:c=47
    ·by_cases hk1:k+1 < n
     ·have hkl1:k+1 < l.length:=by rw[← HN.out];exact hk1
      have hz1:k+1 < (S l).size:=by rw[hsz];exact hk1
      obtain⟨d,hd⟩:=nm (l[k+1].toNat)
      have hget1:((S l)[k+1]'hz1).toNat=d:=by rw[hd];exact congrArg UInt8.toNat (S_get l (k+1) hz1)
      have HD:=Zh hd
      have hd9:d≤255:=by rw[hd];have:=l[k+1].toNat_lt;omega
      have hkI:(k:Int)+1 < (n:Int):=by omega
      have hcI:((c:Int) == 47)=true:=by simp;omega
      by_cases hd47:d=47
      ·have hdI:((d:Int) == 47)=true:=by simp;omega
       have H47:Hid (c=47∧d=47):=⟨h47,hd47⟩
       clear hbb hc hd h47 hd47
       go_wp2_with (first | (go_at_call 52;refine (HBl.out _).mono ?_;rintro e wE ⟨rfl,hwE⟩;have hwE':=hwE.symm;subst hwE';clear hwE))
       go_loopw[1] (fun x wq=>∃(j:Nat),k≤j∧j≤n∧x=Zi (j:Int)∧wq=wr∧Hid (∀i (hi:i < l.length),k≤i→i < j→l[i].toNat≠10)) (fun x _=>n - (intOf x).toNat)
       case atStart=>exact⟨k,Nat.le_refl _,hkn,rfl,rfl,fun i hi h1 h2=>by omega⟩
       case round=>
        obtain⟨j,hkj,hjn,rfl,hwe,HJ⟩:=hrel
        subst hwe
        by_cases hjl:j < n
        ·have hjl2:j < l.length:=by rw[← HN.out];exact hjl
         have hzj:j < (S l).size:=by rw[hsz];exact hjl
         obtain⟨x,hx⟩:=nm (l[j].toNat)
         have hgetj:((S l)[j]'hzj).toNat=x:=by rw[hx];exact congrArg UInt8.toNat (S_get l j hzj)
         have HX:=Zh hx
         have hjI:(j:Int) < (n:Int):=by omega
         by_cases h10:x=10
         ·have h10I:((x:Int) != 10)=false:=by simp;omega
          have HF:Hid (ovE l a=j+KL (l.drop j)):=by
           show _=_
           rw[HI.out,gap_line hkl1 (HC.out.symm.trans H47.out.1) (HD.out.symm.trans H47.out.2) hkj (by rw[← HN.out];exact hjn) HJ.out (fun _=>HX.out.symm.trans h10)]
           omega
          have hjk:k < j:=by
           rcases Nat.lt_or_ge k j with h1 | h1
           ·exact h1
           ·exfalso
            have e:j=k:=by omega
            subst e
            have h2:=(HX.out.trans HC.out.symm).trans H47.out.1
            omega
          clear hx h10 HJ HI
          go_wp2_with fail
          go_roundw
          case rel=>exact⟨j,by omega,by omega,rfl,trivial,HF⟩
          case measure=>simp[intOf];omega
         ·have h10I:((x:Int) != 10)=true:=by simp;omega
          have HJ2:Hid (∀i (hi:i < l.length),k≤i→i < j+1→l[i].toNat≠10):=fun i hi h1 h2=>by
           by_cases h3:i < j
           ·exact HJ.out i hi h1 h3
           ·obtain rfl:i=j:=by omega
            exact fun e=>h10 (HX.out.trans e)
          clear hx h10 HJ
          go_wp2_with fail
          go_roundw
          case rel=>exact⟨j+1,by omega,by omega,by go_num,trivial,HJ2⟩
          case measure=>simp[intOf];omega
        ·have hje:j=n:=by omega
         subst hje
         have HF:Hid (ovE l a=j+KL (l.drop j)):=by
          show _=_
          rw[HI.out,gap_line hkl1 (HC.out.symm.trans H47.out.1) (HD.out.symm.trans H47.out.2) hkj (by rw[← HN.out];exact Nat.le_refl _) HJ.out (fun h=>absurd h (by rw[← HN.out];omega))]
          omega
         clear HJ HI
         go_wp2_with fail
         go_roundw
         case rel=>exact⟨j,by omega,by omega,rfl,trivial,HF⟩
         case measure=>simp[intOf];omega
      ·have hdI:((d:Int) == 47)=false:=by simp;omega
       by_cases hd42:d=42
       ·have hdJ:((d:Int) == 42)=true:=by simp;omega
        have H47:Hid (c=47∧d=42):=⟨h47,hd42⟩
        clear hbb hc hd h47 hd47 hd42
        go_wp2_with (first | (go_at_call 52;refine (HBl.out _).mono ?_;rintro e wE ⟨rfl,hwE⟩;have hwE':=hwE.symm;subst hwE';clear hwE))
        go_loopw[6] (fun x wq=>∃(j:Nat),k+2≤j∧j≤n∧x=Zi (j:Int)∧wq=wr∧Hid (Lib.NoOcc (l.drop (k+2)) [42,47] (j - (k+2)))) (fun x _=>n - (intOf x).toNat)
        case atStart=>exact⟨k+2,Nat.le_refl _,by omega,by go_num,rfl,by show Lib.NoOcc _ _ _;rw[Nat.sub_self];exact Lib.NoOcc.zero _ _⟩
        case round=>
         obtain⟨j,hkj,hjn,rfl,hwe,HJ⟩:=hrel
         subst hwe
         by_cases hj1:j+1 < n
         ·have hjl2:j+1 < l.length:=by rw[← HN.out];exact hj1
          have hzj:j < (S l).size:=by rw[hsz];omega
          have hzj1:j+1 < (S l).size:=by rw[hsz];exact hj1
          obtain⟨x,hx⟩:=nm (l[j].toNat)
          obtain⟨y,hy⟩:=nm (l[j+1].toNat)
          have hgetj:((S l)[j]'hzj).toNat=x:=by rw[hx];exact congrArg UInt8.toNat (S_get l j hzj)
          have hgetj1:((S l)[j+1]'hzj1).toNat=y:=by rw[hy];exact congrArg UInt8.toNat (S_get l (j+1) hzj1)
          have HX:=Zh hx
          have HY:=Zh hy
          have hjI:(j:Int)+1 < (n:Int):=by omega
          have HOc:Hid (Lib.occAt (l.drop (k+2)) [42,47] (j - (k+2))=(decide (x=42) && decide (y=47))):=by
           show _=_
           have e:k+2+(j - (k+2))=j:=by omega
           rw[occ_at (k:=k+2) (j - (k+2)) (by omega)]
           simp only[e]
           exact congr (congrArg (fun p=>and (decide (p=42))) HX.out.symm) (congrArg (fun q=>decide (q=47)) HY.out.symm)
          by_cases hx42:x=42
          ·have hxI:((x:Int) != 42)=false:=by simp;omega
           by_cases hy47:y=47
           ·have hyI:((y:Int) != 47)=false:=by simp;omega
            have hgeI:¬(n:Int)≤(j:Int)+1:=by omega
            have HF:Hid (ovE l a=(j+2)+KL (l.drop (j+2))):=by
             show _=_
             rw[HI.out,gap_block hkl1 (HC.out.symm.trans H47.out.1) (HD.out.symm.trans H47.out.2) hkj hjl2 HJ.out (HX.out.symm.trans hx42) (HY.out.symm.trans hy47)]
             omega
            clear hx hy hx42 hy47 HJ HI HOc
            go_wp2_with fail
            go_roundw
            case rel=>exact⟨j+2,by omega,by omega,by go_num,trivial,HF⟩
            case measure=>simp[intOf];omega
           ·have hyI:((y:Int) != 47)=true:=by simp;omega
            have HJ2:Hid (Lib.NoOcc (l.drop (k+2)) [42,47] (j+1 - (k+2))):=by
             show Lib.NoOcc _ _ _
             rw[show j+1 - (k+2)=(j - (k+2))+1 by omega]
             exact HJ.out.succ (by rw[HOc.out];simp[hy47])
            clear hx hy hx42 hy47 HJ HOc
            go_wp2_with fail
            go_roundw
            case rel=>exact⟨j+1,by omega,by omega,by go_num,trivial,HJ2⟩
            case measure=>simp[intOf];omega
          ·have hxI:((x:Int) != 42)=true:=by simp;omega
           have HJ2:Hid (Lib.NoOcc (l.drop (k+2)) [42,47] (j+1 - (k+2))):=by
            show Lib.NoOcc _ _ _
            rw[show j+1 - (k+2)=(j - (k+2))+1 by omega]
            exact HJ.out.succ (by rw[HOc.out];simp[hx42])
           clear hx hy hx42 HJ HOc
           go_wp2_with fail
           go_roundw
           case rel=>exact⟨j+1,by omega,by omega,by go_num,trivial,HJ2⟩
           case measure=>simp[intOf];omega
         ·have hjI:¬(j:Int)+1 < (n:Int):=by omega
          have hgeI:(n:Int)≤(j:Int)+1:=by omega
          have HF:Hid (ovE l a=k∧ovB l a=false):=by
           obtain⟨h1,h2⟩:=gap_open hkl1 (HC.out.symm.trans H47.out.1) (HD.out.symm.trans H47.out.2) hkj (by rw[← HN.out];omega) HJ.out
           have h3:ovE l a=k:=by rw[HI.out,h1];rfl
           exact⟨h3,by unfold ovB;rw[h3,h2];rfl⟩
          clear HJ HI
          go_wp2_with fail
          go_ret2
          exact⟨by rw[HF.out.1,HF.out.2];rfl,rfl⟩
       ·have hdJ:((d:Int) == 42)=false:=by simp;omega
        have HF:Hid (ovE l a=k∧ovB l a=true):=by
         have p1:[47,47].isPrefixOf (l.drop k)=false:=pre_ne1 hkl1 47 47 (fun e=>hd47 (HD.out.trans e))
         have p2:[47,42].isPrefixOf (l.drop k)=false:=pre_ne1 hkl1 47 42 (fun e=>hd42 (HD.out.trans e))
         have g:=KL_stop (gap_none p1 p2 (fun h=>by simp only[List.getElem_drop,Nat.add_zero];exact (congrArg blC HC.out.symm).trans HBB.out.symm))
         have h3:ovE l a=k:=by rw[HI.out,g];rfl
         exact⟨h3,by unfold ovB;rw[h3,p2];rfl⟩
        clear hbb hc hd h47 hd47 hd42 HI
        go_wp2_with (first | (go_at_call 52;refine (HBl.out _).mono ?_;rintro e wE ⟨rfl,hwE⟩;have hwE':=hwE.symm;subst hwE';clear hwE))
        go_ret2
        exact⟨by rw[HF.out.1,HF.out.2];rfl,rfl⟩
     ·have hke:k+1=n:=by omega
      have hkI:¬(k:Int)+1 < (n:Int):=by omega
      have hcI:((c:Int) == 47)=true:=by simp;omega
      have HF:Hid (ovE l a=k∧ovB l a=true):=by
       have p1:[47,47].isPrefixOf (l.drop k)=false:=pre_end (by rw[← HN.out];omega) _ _
       have p2:[47,42].isPrefixOf (l.drop k)=false:=pre_end (by rw[← HN.out];omega) _ _
       have g:=KL_stop (gap_none p1 p2 (fun h=>by simp only[List.getElem_drop,Nat.add_zero];exact (congrArg blC HC.out.symm).trans HBB.out.symm))
       have h3:ovE l a=k:=by rw[HI.out,g];rfl
       exact⟨h3,by unfold ovB;rw[h3,p2];rfl⟩
      clear hbb hc h47 HI hke
      go_wp2_with (first | (go_at_call 52;refine (HBl.out _).mono ?_;rintro e wE ⟨rfl,hwE⟩;have hwE':=hwE.symm;subst hwE';clear hwE))
      go_ret2
      exact⟨by rw[HF.out.1,HF.out.2];rfl,rfl⟩
    ·have hcI:((c:Int) == 47)=false:=by simp;omega
     have HF:Hid (ovE l a=k∧ovB l a=true):=by
      have pp:∀y:UInt8,[47,y].isPrefixOf (l.drop k)=false:=fun y=>by
       rw[List.drop_eq_getElem_cons hkl]
       exact pre_no (fun e=>h47 (HC.out.trans e))
      have g:=KL_stop (gap_none (pp 47) (pp 42) (fun h=>by simp only[List.getElem_drop,Nat.add_zero];exact (congrArg blC HC.out.symm).trans HBB.out.symm))
      have h3:ovE l a=k:=by rw[HI.out,g];rfl
      exact⟨h3,by unfold ovB;rw[h3,pp 42];rfl⟩
     clear hbb hc h47 HI
     go_wp2_with (first | (go_at_call 52;refine (HBl.out _).mono ?_;rintro e wE ⟨rfl,hwE⟩;have hwE':=hwE.symm;subst hwE';clear hwE))
     go_ret2
     exact⟨by rw[HF.out.1,HF.out.2];rfl,rfl⟩
  ·have hke:k=n:=by omega
   have HF:Hid (ovE l a=k∧ovB l a=true):=by
    have e:l.drop k=[]:=List.drop_eq_nil_of_le (by rw[← HN.out];omega)
    have h3:ovE l a=k:=by rw[HI.out,e];rfl
    exact⟨h3,by unfold ovB;rw[h3,e];rfl⟩
   clear HI
   have hkI:¬(k:Int) < (n:Int):=by omega
   clear hke
   go_wp2_with fail
   go_ret2
   exact⟨by rw[HF.out.1,HF.out.2];rfl,rfl⟩
theorem own_at (i:Nat) (hi:i < 17) (W:World) (O:Nat) (h:W.heap[O]? = some (.cells #[.string ⟨#[99,111,110,115,116]⟩,.string ⟨#[112,114,111,99]⟩,.string ⟨#[114,101,97,100,115]⟩,.string ⟨#[119,114,105,116,101,115]⟩,.string ⟨#[108,101,116]⟩,.string ⟨#[112,117,116]⟩,.string ⟨#[100,101,108]⟩,.string ⟨#[111,117,116]⟩,.string ⟨#[97,98,111,114,116]⟩,.string ⟨#[115,116,111,112]⟩,.string ⟨#[105,102]⟩,.string ⟨#[101,108,115,101]⟩,.string ⟨#[114,101,112,101,97,116]⟩,.string ⟨#[103,101,116]⟩,.string ⟨#[104,97,115]⟩,.string ⟨#[109,105,110]⟩,.string ⟨#[109,97,120]⟩,Ze] 118 (0,0))):W.cell? ⟨O,i,none⟩=some (.string (S ownL[i]!)):=by
 obtain rfl | rfl | rfl | rfl | rfl | rfl | rfl | rfl | rfl | rfl | rfl | rfl | rfl | rfl | rfl | rfl | rfl:i=0∨i=1∨i=2∨i=3∨i=4∨i=5∨i=6∨i=7∨i=8∨i=9∨i=10∨i=11∨i=12∨i=13∨i=14∨i=15∨i=16:=by omega
 all_goals
  simp[World.cell?,h,ownL]
  try rfl
theorem own_yes {i:Nat} (hi:i < 17) {t:List UInt8} (h:ownL[i]! = t):isOwn t=true:=by
 unfold isOwn
 rw[List.contains_iff_mem,← h]
 have hl:i < ownL.length:=hi
 rw[getElem!_pos ownL i hl]
 exact List.getElem_mem hl
theorem own_no {t:List UInt8} (h:∀i,i < 17→ownL[i]!≠t):isOwn t=false:=by
 cases hc:isOwn t with
 | false=>rfl
 | true=>
  exfalso
  unfold isOwn at hc
  rw[List.contains_iff_mem] at hc
  obtain⟨i,hi,e⟩:=List.getElem_of_mem hc
  exact h i hi (by rw[getElem!_pos ownL i hi];exact e)
theorem own_any (w:World) (t:List UInt8):Calls Tryz.prog 28 #[.string (S t)] w fun e w'=>e=.returned (.bool (isOwn t))∧Grew w w':=by
 obtain⟨W1,hW1⟩:=nm (w.alloc (.cells #[.string ⟨#[99,111,110,115,116]⟩,.string ⟨#[112,114,111,99]⟩,.string ⟨#[114,101,97,100,115]⟩,.string ⟨#[119,114,105,116,101,115]⟩,.string ⟨#[108,101,116]⟩,.string ⟨#[112,117,116]⟩,.string ⟨#[100,101,108]⟩,.string ⟨#[111,117,116]⟩,.string ⟨#[97,98,111,114,116]⟩,.string ⟨#[115,116,111,112]⟩,.string ⟨#[105,102]⟩,.string ⟨#[101,108,115,101]⟩,.string ⟨#[114,101,112,101,97,116]⟩,.string ⟨#[103,101,116]⟩,.string ⟨#[104,97,115]⟩,.string ⟨#[109,105,110]⟩,.string ⟨#[109,97,120]⟩,Ze] 118))
 obtain⟨O,hO⟩:=nm (w.heap.size)
 have HG:Hid (Grew w W1):=by show Grew w W1;rw[hW1];exact (Grew.refl w).alloc _
 have HC:Hid (∀i,i < 17→W1.cell? ⟨O,i,none⟩=some (.string (S ownL[i]!))):=fun i hi=>own_at i hi W1 O (by rw[hW1,hO];exact heap_alloc_new _ _ rfl)
 have hts:=S_toList t
 go_enter Tryz.func28,Tryz.ntmps28
 go_wp2_with fail
 rw[← hW1,← hO]
 clear hW1 hO
 go_loopw[4] (fun x wr=>∃(i:Nat),i≤17∧x=Zi (i:Int)∧wr=W1∧Hid (∀j,j < i→ownL[j]!≠t)) (fun x _=>17 - (intOf x).toNat)
 case atStart=>exact⟨0,by omega,rfl,rfl,fun j hj=>by omega⟩
 case round=>
  obtain⟨i,hi,rfl,hwe,HI⟩:=hrel
  subst hwe
  by_cases hlt:i < 17
  ·have c0:=HC.out i hlt
   have htu:=S_toList ownL[i]!
   have hiI:(i:Int) < 17:=by omega
   by_cases hq:ownL[i]! = t
   ·have hb:((S ownL[i]!).toList == (S t).toList)=true:=by rw[htu,hts,hq];simp
    have HF:Hid (isOwn t=true):=own_yes hlt hq
    clear hq htu hts
    generalize S ownL[i]! = u at *
    go_wp2_with fail
    go_ret
    exact⟨by rw[HF.out];rfl,HG.out⟩
   ·have hb:((S ownL[i]!).toList == (S t).toList)=false:=by rw[htu,hts];simpa using hq
    have HF:Hid (∀j,j < i+1→ownL[j]!≠t):=fun j hj=>by
     by_cases hj2:j < i
     ·exact HI.out j hj2
     ·obtain rfl:j=i:=by omega
      exact hq
    clear hq htu hts HI
    generalize S ownL[i]! = u at *
    go_wp2_with fail
    go_roundw
    case rel=>exact⟨i+1,by omega,by go_num,trivial,HF⟩
    case measure=>simp[intOf];omega
  ·have HF:Hid (isOwn t=false):=own_no (fun j hj=>HI.out j (by omega))
   have hiI:¬(i:Int) < 17:=by omega
   clear HI hlt
   go_wp2_with fail
   go_ret
   exact⟨by rw[HF.out];rfl,HG.out⟩
def sg28:List (List UInt8):=[[61,61],[33,61],[60,61],[62,61],[60,60],[62,62],[38,38],[124,124],[61],[60],[62],[43],[45],[42],[47],[37],[38],[124],[94],[33],[63],[58],[59],[44],[40],[41],[123],[125]]
theorem sg28_len {i:Nat} (hi:i < 28):sg28[i]!.length=1∨sg28[i]!.length=2:=by
 have hl:i < sg28.length:=hi
 rw[getElem!_pos sg28 i hl]
 have:∀p∈sg28,p.length=1∨p.length=2:=by decide
 exact this _ (List.getElem_mem hl)
theorem sg28_kind {i:Nat} (hi:i < 28):(i < 8∧sg28[i]! = pairL[i]!)∨(8≤i∧∃c,sg28[i]! = [c]∧shortL.contains c=true):=by
 have key:∀i:Fin 28,(i.val < 8∧sg28[i.val]! = pairL[i.val]!)∨(8≤i.val∧sg28[i.val]!.length=1∧(sg28[i.val]!).all (fun c=>shortL.contains c)=true):=by decide
 rcases key ⟨i,hi⟩ with h | ⟨h1,h2,h3⟩
 ·exact .inl h
 ·obtain⟨c,hc⟩:=List.length_eq_one_iff.1 h2
  simp only at hc h3
  rw[hc] at h3
  exact .inr ⟨h1,c,hc,by simpa using h3⟩
theorem sgD_hit {l:List UInt8} {i:Nat} (hi:i < 28) (h:sg28[i]!.isPrefixOf l=true) (hb:∀j,j < i→sg28[j]!.isPrefixOf l=false):l.take (sgN l)=sg28[i]!:=by
 rcases sg28_kind hi with ⟨h1,h2⟩ | ⟨h1,c,h2,h3⟩
 ·rw[h2] at h ⊢
  have h4:=sgN_hit h1 h
  rw[h4.1]
  exact h4.2
 ·have hm:∀j,j < 8→pairL[j]!.isPrefixOf l=false:=fun j hj=>by
   rcases sg28_kind (show j < 28 by omega) with ⟨_,h5⟩ | ⟨h5,_⟩
   ·rw[← h5];exact hb j (by omega)
   ·omega
  rw[h2] at h ⊢
  obtain⟨r,hr⟩:=List.isPrefixOf_iff_prefix.1 h
  have hr2:l=c :: r:=by rw[← hr];rfl
  rw[sgN_miss hm,hr2]
  unfold shN
  simp only[h3,if_true]
  rfl
theorem sgD_short {c:UInt8} (h:shortL.contains c=true):c.toNat=91∨c.toNat=93∨∃i,i < 28∧sg28[i]! = [c]:=by
 have key:∀x∈shortL,x.toNat=91∨x.toNat=93∨(sg28.any (fun p=>p == [x]))=true:=by decide
 rcases key c (List.contains_iff_mem.1 h) with h1 | h1 | h1
 ·exact .inl h1
 ·exact .inr (.inl h1)
 ·obtain⟨p,hp,h2⟩:=List.any_eq_true.1 h1
  obtain⟨i,hi,rfl⟩:=List.getElem_of_mem hp
  refine .inr (.inr ⟨i,hi,?_⟩)
  rw[getElem!_pos sg28 i hi]
  exact beq_iff_eq.1 h2
theorem sgD_miss {c:UInt8} {r:List UInt8} (hb:∀j,j < 28→sg28[j]!.isPrefixOf (c :: r)=false):(c :: r).take (sgN (c :: r))=if c.toNat=91∨c.toNat=93 then [c] else []:=by
 have hm:∀j,j < 8→pairL[j]!.isPrefixOf (c :: r)=false:=fun j hj=>by
  rcases sg28_kind (show j < 28 by omega) with ⟨_,h5⟩ | ⟨h5,_⟩
  ·rw[← h5];exact hb j (by omega)
  ·omega
 rw[sgN_miss hm]
 unfold shN
 simp only
 by_cases h:c.toNat=91∨c.toNat=93
 ·have h2:shortL.contains c=true:=by
   rcases h with h | h
   ·have:c=91:=UInt8.toNat_inj.1 h
    subst this;decide
   ·have:c=93:=UInt8.toNat_inj.1 h
    subst this;decide
  rw[if_pos h2,if_pos h]
  rfl
 ·have h2:shortL.contains c=false:=by
   cases hc:shortL.contains c with
   | false=>rfl
   | true=>
    exfalso
    rcases sgD_short hc with h1 | h1 | ⟨i,hi,h1⟩
    ·exact h (.inl h1)
    ·exact h (.inr h1)
    ·have:=hb i hi
     rw[h1] at this
     simp[List.isPrefixOf] at this
  rw[h2,if_neg h]
  rfl
theorem pre_take {p l:List UInt8} : p.isPrefixOf l=decide (l.take p.length=p):=by
 cases h:p.isPrefixOf l with
 | true=>
  obtain⟨r,hr⟩:=List.isPrefixOf_iff_prefix.1 h
  rw[← hr,List.take_left]
  simp
 | false=>
  symm
  rw[decide_eq_false_iff_not]
  intro e
  have:p <+: l:=by rw[← e];exact List.take_prefix _ _
  rw[List.isPrefixOf_iff_prefix.2 this] at h
  cases h
def sgC:Array Value:=#[.string ⟨#[61,61]⟩,.string ⟨#[33,61]⟩,.string ⟨#[60,61]⟩,.string ⟨#[62,61]⟩,.string ⟨#[60,60]⟩,.string ⟨#[62,62]⟩,.string ⟨#[38,38]⟩,.string ⟨#[124,124]⟩,.string ⟨#[61]⟩,.string ⟨#[60]⟩,.string ⟨#[62]⟩,.string ⟨#[43]⟩,.string ⟨#[45]⟩,.string ⟨#[42]⟩,.string ⟨#[47]⟩,.string ⟨#[37]⟩,.string ⟨#[38]⟩,.string ⟨#[124]⟩,.string ⟨#[94]⟩,.string ⟨#[33]⟩,.string ⟨#[63]⟩,.string ⟨#[58]⟩,.string ⟨#[59]⟩,.string ⟨#[44]⟩,.string ⟨#[40]⟩,.string ⟨#[41]⟩,.string ⟨#[123]⟩,.string ⟨#[125]⟩]
theorem sgC_get (i:Nat) (h:i < 28):sgC[i]? = some (.string (S sg28[i]!)):=by
 have e:sgC=(sg28.map fun p=>Value.string (S p)).toArray:=rfl
 have hl:i < sg28.length:=h
 rw[e,getElem!_pos sg28 i hl]
 simp[List.getElem?_eq_getElem hl]
theorem wpList_builtS {P:Program} {ops:Array Oper} {rest:List Oper} {o:Oper} {a:Act} {w:World} {Q:Exit→Act→World→Prop} (hg:o.guard=none) (t:TypeId) (parts:Array (Nat × Operand)) (ho:o.op=.build t parts) (cells:Array Value)
  (hc:P.built t (parts.map fun (i,x)=>(i,a.eval x)).toList=some cells) (h:wpList P ops Q rest (a.put o.dst (.agg cells)) w):wpList P ops Q (o :: rest) a w:=by
 refine wpList_build hg t parts ho (by rw[hc];rfl) ?_
 rw[hc];exact h
theorem zW_row (w:World):((w.alloc (.cells #[Ze,Ze,Ze,Ze,Ze,Ze,Ze,Ze,Ze,Ze,Ze,Ze,Ze,Ze,Ze,Ze,Ze,Ze,Ze,Ze,Ze,Ze,Ze,Ze,Ze,Ze,Ze,Ze] 120)).setRow w.heap.size sgC).heap[w.heap.size]? = some (.cells sgC 120 (0,0)):=setRow_heap _ w.heap.size _ sgC 120 (0,0) (heap_alloc_new (w:=w) (.cells #[Ze,Ze,Ze,Ze,Ze,Ze,Ze,Ze,Ze,Ze,Ze,Ze,Ze,Ze,Ze,Ze,Ze,Ze,Ze,Ze,Ze,Ze,Ze,Ze,Ze,Ze,Ze,Ze] 120) _ rfl)
theorem zW_below (w:World):Below w.heap.size w ((w.alloc (.cells #[Ze,Ze,Ze,Ze,Ze,Ze,Ze,Ze,Ze,Ze,Ze,Ze,Ze,Ze,Ze,Ze,Ze,Ze,Ze,Ze,Ze,Ze,Ze,Ze,Ze,Ze,Ze,Ze] 120)).setRow w.heap.size sgC):=below_setRow (bel_al w _) (Nat.le_refl _) _
theorem rsigns_any (w:World):Calls Tryz.prog 55 #[] w fun e w'=>e=.returned (.agg sgC)∧Below w.heap.size w w':=by
 go_enter Tryz.func55,Tryz.ntmps55
 go_wp2_with (first | (refine wpList_builtS rfl 120 _ rfl sgC (by kernel_rfl) ?_) | (refine wpList_store_row rfl _ _ _ rfl w.heap.size sgC rfl rfl 120 _ (heap_alloc_new _ _ rfl) (by kernel_rfl) (by kernel_rfl) (by kernel_rfl) ?_))
 have hh:=zW_row w
 have HB:=Zh (zW_below w)
 generalize ((w.alloc (.cells #[Ze,Ze,Ze,Ze,Ze,Ze,Ze,Ze,Ze,Ze,Ze,Ze,Ze,Ze,Ze,Ze,Ze,Ze,Ze,Ze,Ze,Ze,Ze,Ze,Ze,Ze,Ze,Ze] 120)).setRow w.heap.size sgC)=W at *
 have hr:=World.rangeAt_of_block hh 0 28
 have e:(sgC.extract 0 (0+28)).toList=sgC.toList:=by rfl
 rw[e] at hr
 have hld:=run_loadVar_mid (P:=Tryz.prog) W w.heap.size 0 120 sgC.toList _ hr Tryz.underlying120 rfl (by kernel_rfl)
 refine bodyPost_ret (v:=.agg sgC) ?_ rfl ⟨rfl,HB.out⟩
 simp[results,Tryz.results55,Act.put,asAddr,hld]
theorem rsign_any (w:World) (L:List UInt8) (k:Nat) (hk:k < L.length) (hL:L.length≤65536):Calls Tryz.prog 31 #[.string (S L),Zi (k:Int)] w fun e w'=>e=.returned (.string (S ((L.drop k).take (sgN (L.drop k)))))∧Below w.heap.size w w':=by
 have HSg:=Zh (rsigns_any w)
 obtain⟨n,hn⟩:=nm (L.length)
 have hsz:(S L).size=n:=by rw[S_size,hn]
 have HN:=Zh hn
 have hn9:n≤65536:=by omega
 have hkn:k < n:=by omega
 have hkI:(k:Int) < (n:Int):=by omega
 clear hn hk hL
 go_enter Tryz.func31,Tryz.ntmps31
 go_wp2_with fail
 refine HSg.out.mono ?_
 rintro e w1 ⟨rfl,hg1⟩
 have HB1:=Zh hg1
 clear hg1 HSg
 go_wp2_with (refine wpList_store_row rfl _ _ _ rfl w1.heap.size sgC rfl rfl 120 _ (heap_alloc_new _ _ rfl) (by kernel_rfl) (by kernel_rfl) (by kernel_rfl) ?_)
 obtain⟨O,hO⟩:=nm (w1.heap.size)
 obtain⟨W1,hW1⟩:=nm (((w1.alloc (.cells #[Ze,Ze,Ze,Ze,Ze,Ze,Ze,Ze,Ze,Ze,Ze,Ze,Ze,Ze,Ze,Ze,Ze,Ze,Ze,Ze,Ze,Ze,Ze,Ze,Ze,Ze,Ze,Ze] 120)).setRow w1.heap.size sgC))
 have HG1:Hid (Below w.heap.size w W1):=by show Below _ w W1;rw[hW1];exact HB1.out.trans ((zW_below w1).mono HB1.out.size)
 have HC1:Hid (∀i,i < 28→W1.cell? ⟨O,i,none⟩=some (.string (S sg28[i]!))):=fun i hi=>by
  have h1:=zW_row w1
  rw[← hW1,← hO] at h1
  rw[World.cell?,h1]
  exact sgC_get i hi
 rw[← hW1,← hO]
 clear hW1 hO HB1
 go_loopw[6] (fun x wr=>∃(i:Nat),i≤28∧x=Zi (i:Int)∧Hid (Grew W1 wr∧∀j,j < i→sg28[j]!.isPrefixOf (L.drop k)=false)) (fun x _=>28 - (intOf x).toNat)
 case atStart=>exact⟨0,by omega,rfl,Grew.refl _,fun j hj=>by omega⟩
 case round=>
  obtain⟨i,hi,rfl,HI⟩:=hrel
  by_cases hlt:i < 28
  ·have hiI:(i:Int) < 28:=by omega
   have c0:=HI.out.1.cell (HC1.out i hlt)
   have hlen:=sg28_len hlt
   obtain⟨m,hm⟩:=nm (sg28[i]!.length)
   have hsm:(S sg28[i]!).size=m:=by rw[S_size,hm]
   have HPx:Hid (sg28[i]!.isPrefixOf (L.drop k)=decide ((L.drop k).take m=sg28[i]!)):=by show _=_;rw[hm];exact pre_take
   have HHit:Hid (sg28[i]!.isPrefixOf (L.drop k)=true→(L.drop k).take (sgN (L.drop k))=sg28[i]!):=fun h=>sgD_hit hlt h HI.out.2
   rw[← hm] at hlen
   have hm2:m≤2:=by omega
   have hm0:0 < m:=by omega
   have HMl:=Zh hm
   have hts:=S_toList sg28[i]!
   have x1:(S L).extract k (k+m)=S ((L.drop k).take m):=by rw[S_cut,List.drop_take];congr 1;congr 1;omega
   have hts2:=S_toList ((L.drop k).take m)
   have hw:IntKind.i64.wrap ((k:Int)+(m:Int))=(k:Int)+(m:Int):=by rw[IntKind.wrap_i64];omega
   have hp0:(0:Int)≤(k:Int)+(m:Int):=by omega
   have hp1:(k:Int)≤(k:Int)+(m:Int):=by omega
   have hpt:((k:Int)+(m:Int)).toNat=k+m:=by omega
   have HGw:Hid (∀q,Below w.heap.size w (wr.drewN q)):=fun q=>HG1.out.trans ((HI.out.1.drewN q).below.mono HG1.out.size)
   have HC9:Hid (∀q,(wr.drewN q).cell? ⟨O,i,none⟩=some (.string (S sg28[i]!))):=fun q=>((Grew.refl wr).drewN q).cell c0
   have HNx:Hid (∀q,Grew W1 (wr.drewN q)):=fun q=>HI.out.1.drewN q
   clear hm hlen
   by_cases hfit:k+m≤n
   ·have hfI:(k:Int)+(m:Int)≤(n:Int):=by omega
    by_cases heq:(L.drop k).take m=sg28[i]!
    ·have hq:((S ((L.drop k).take m)).toList == (S sg28[i]!).toList)=true:=by rw[hts,hts2,heq];simp
     have HF:Hid ((L.drop k).take (sgN (L.drop k))=sg28[i]!):=HHit.out (by rw[HPx.out];exact decide_eq_true heq)
     clear heq hts hts2 HHit HPx HI HMl
     generalize S ((L.drop k).take m)=u at *
     generalize hz:S sg28[i]! = z at *
     have HZ:=Zh hz
     clear hz
     go_wp2_with fail
     go_quiet (fail)
     have c9:=HC9.out nq
     have HG9:=Zh (HGw.out nq)
     generalize wr.drewN nq=W9 at *
     go_wp2_with fail
     go_ret
     exact⟨by rw[HF.out,HZ.out];rfl,HG9.out⟩
    ·have hq:((S ((L.drop k).take m)).toList == (S sg28[i]!).toList)=false:=by rw[hts,hts2];simpa using heq
     have HB:Hid (sg28[i]!.isPrefixOf (L.drop k)=false):=by show _=_;rw[HPx.out];exact decide_eq_false heq
     have HI3:Hid (∀j,j < i+1→sg28[j]!.isPrefixOf (L.drop k)=false):=fun j hj=>by
      by_cases hj2:j < i
      ·exact HI.out.2 j hj2
      ·obtain rfl:j=i:=by omega
       exact HB.out
     clear heq hts hts2 HHit HPx HI HMl HB
     generalize S ((L.drop k).take m)=u at *
     generalize S sg28[i]! = z at *
     go_wp2_with fail
     go_quiet (fail)
     have HG9:=Zh (HNx.out nq)
     generalize wr.drewN nq=W9 at *
     go_wp2_with fail
     go_roundw
     case rel=>exact⟨i+1,by omega,by go_num,HG9.out,HI3.out⟩
     case measure=>simp[intOf];omega
   ·have hfI:¬(k:Int)+(m:Int)≤(n:Int):=by omega
    have hfB:decide ((k:Int)+(m:Int)≤(n:Int))=false:=decide_eq_false hfI
    have HB:Hid (sg28[i]!.isPrefixOf (L.drop k)=false):=by
     show _=_
     rw[HPx.out]
     refine decide_eq_false (fun e=>?_)
     have h1:=congrArg List.length e
     rw[← HMl.out,List.length_take,List.length_drop,← HN.out] at h1
     omega
    have HI3:Hid (∀j,j < i+1→sg28[j]!.isPrefixOf (L.drop k)=false):=fun j hj=>by
     by_cases hj2:j < i
     ·exact HI.out.2 j hj2
     ·obtain rfl:j=i:=by omega
      exact HB.out
    clear hts hts2 HHit HPx HI HMl HB x1
    generalize S sg28[i]! = z at *
    go_wp2_with fail
    go_quiet (fail)
    have HG9:=Zh (HNx.out nq)
    generalize wr.drewN nq=W9 at *
    go_wp2_with fail
    go_roundw
    case rel=>exact⟨i+1,by omega,by go_num,HG9.out,HI3.out⟩
    case measure=>simp[intOf];omega
  ·have hiI:¬(i:Int) < 28:=by omega
   have hkl:k < L.length:=by rw[← HN.out];exact hkn
   have hkS:k < (S L).size:=by rw[S_size];exact hkl
   obtain⟨c,hc⟩:=nm (L[k].toNat)
   have hget:((S L)[k]'hkS).toNat=c:=by rw[hc];exact congrArg UInt8.toNat (S_get L k hkS)
   have HM:Hid ((L.drop k).take (sgN (L.drop k))=if c=91∨c=93 then (L.drop k).take 1 else []):=by
    show _=_
    have h1:L.drop k=L[k] :: L.drop (k+1):=List.drop_eq_getElem_cons hkl
    have h2:=sgD_miss (c:=L[k]) (r:=L.drop (k+1)) (fun j hj=>by rw[← h1];exact HI.out.2 j (by omega))
    rw[← h1] at h2
    rw[h2,hc]
    by_cases h3:L[k].toNat=91∨L[k].toNat=93
    ·rw[if_pos h3,if_pos h3,h1]
     rfl
    ·rw[if_neg h3,if_neg h3]
   have HGw:=Zh (HG1.out.trans (HI.out.1.below.mono HG1.out.size))
   have x1:(S L).extract k (k+1)=S ((L.drop k).take 1):=by rw[S_cut,List.drop_take];congr 1;congr 1;omega
   have hw1:IntKind.i64.wrap ((k:Int)+1)=(k:Int)+1:=by rw[IntKind.wrap_i64];omega
   have hkn1:(k:Int)+1≤(n:Int):=by omega
   have hk01:(0:Int)≤(k:Int)+1:=by omega
   have hk02:(k:Int)≤(k:Int)+1:=by omega
   have hkt:((k:Int)+1).toNat=k+1:=by omega
   clear hc HI
   by_cases h91:c=91
   ·have hb1:((c:Int) == 91)=true:=by simp;omega
    have HF:Hid ((L.drop k).take (sgN (L.drop k))=(L.drop k).take 1):=by show _=_;rw[HM.out,if_pos (.inl h91)]
    clear h91 HM
    go_wp2_with fail
    go_ret
    exact⟨by rw[HF.out];rfl,HGw.out⟩
   ·have hb1:((c:Int) == 91)=false:=by simp;omega
    by_cases h93:c=93
    ·have hb2:((c:Int) == 93)=true:=by simp;omega
     have HF:Hid ((L.drop k).take (sgN (L.drop k))=(L.drop k).take 1):=by show _=_;rw[HM.out,if_pos (.inr h93)]
     clear h91 h93 HM
     go_wp2_with fail
     go_ret
     exact⟨by rw[HF.out];rfl,HGw.out⟩
    ·have hb2:((c:Int) == 93)=false:=by simp;omega
     have HF:Hid ((L.drop k).take (sgN (L.drop k))=[]):=by
      show _=_
      rw[HM.out,if_neg]
      rintro (h | h)
      ·exact h91 h
      ·exact h93 h
     clear h91 h93 HM
     go_wp2_with fail
     go_ret
     exact⟨by rw[HF.out];rfl,HGw.out⟩
end Go.Proofs.YtlfooogmoigpfaaGreatDoor
namespace Go.Proofs.YtlfooogmoigpfaaGreatDoor
open Go.RowKit Go.Sort
def str (l:List UInt8):Value:=.string ⟨l.toArray⟩
def Tail (u r:Nat) (l:List UInt8):Prop:=if r=0 then l=Lib.decDigits u else Lib.decDigits r ++ l=Lib.decDigits u
theorem Tail.step {u r:Nat} {l:List UInt8} (h:Tail u r l) (hr:r≠0):Tail u (r / 10) (UInt8.ofNat (48+r % 10) :: l):=by
 unfold Tail at *
 rw[if_neg hr] at h
 by_cases h10:r < 10
 ·rw[if_pos (by omega),← h,Lib.decDigits_one h10,show r % 10=r by omega];rfl
 ·rw[if_neg (by omega),← h,Dec.decDigits_rec r h10,List.append_assoc];rfl
theorem Tail.le {u r:Nat} {l:List UInt8} (h:Tail u r l) (hu:u≤9223372036854775808):l.length≤19:=by
 have hl:=Dec.len_digits u hu
 unfold Tail at h
 split at h
 ·rw[h];exact hl
 ·rw[← h,List.length_append] at hl;omega
theorem one_string (w:World) (q:Nat):(convert 156 9 (.slice (some ⟨w.heap.size,0,none⟩) 1 1)).run Tryz.prog (w.alloc (.cells #[.int .u8 (48+(q:Int) % 10)] 5)) =
  .ok (.string ⟨[UInt8.ofNat (48+q % 10)].toArray⟩) (w.alloc (.cells #[.int .u8 (48+(q:Int) % 10)] 5)):=by
 refine run_convert_bytes_back (P:=Tryz.prog) _ 156 9 5 ⟨w.heap.size,0,none⟩ 1 [UInt8.ofNat (48+q % 10)] Tryz.underlying156 Tryz.underlying5 Tryz.underlying9 ?_
 intro j hj
 obtain rfl:j=0:=by simp at hj;omega
 have e:(⟨w.heap.size,0,none⟩:Addr).add 0=⟨w.heap.size,0,none⟩:=rfl
 rw[e,World.cell?_alloc_at _ _ _ _ rfl]
 simp only[List.getElem_cons_zero,Dec.digit_toNat (q % 10) (by omega)]
 simp
theorem cat (c:UInt8) (l:List UInt8):(ByteArray.mk #[c] ++ ByteArray.mk l.toArray)=ByteArray.mk (c :: l).toArray:=by
 have:=ByteArray.mk_append_mk [c] l
 simpa using this
theorem d48 (x:Nat):(48:UInt8)+UInt8.ofNat x=UInt8.ofNat (48+x):=by rw[UInt8.ofNat_add];rfl
theorem size_mk (l:List UInt8):(ByteArray.mk l.toArray).size=l.length:=by simp[ByteArray.size]
theorem refDigits_pos (w:World) (u:Nat) (h0:0 < u) (h1:u≤9223372036854775807) :
  Calls Tryz.prog 90 #[Zi (u:Int)] w fun e w'=>e=.returned (str (Lib.decDigits u))∧Grew w w':=by
 have hz:((u:Int) == 0)=false:=by rw[beq_eq_false_iff_ne];omega
 have hst:=one_string
 go_enter Tryz.func90,Tryz.ntmps90
 go_wp2
 go_loopw[4,5] (fun r s wr=>∃(q:Nat) (l:List UInt8),r=.int .u64 (q:Int)∧s=.string ⟨l.toArray⟩∧q≤u∧Hid (Tail u q l)∧Hid (Grew w wr)) (fun r _ _=>(intOf r).toNat)
 case atStart=>exact⟨u,[],rfl,rfl,Nat.le_refl _,by unfold Tail;rw[Hid,if_neg (by omega),List.append_nil],Grew.refl _⟩
 case round=>
  obtain⟨q,l,rfl,rfl,hq,ht,hb⟩:=hrel
  by_cases hr:q=0
  ·subst hr
   have HL:Hid (l=Lib.decDigits u):=by have:=ht.out;unfold Tail at this;rwa [if_pos rfl] at this
   have hl:=ht.out.le (by omega)
   have hs:¬((ByteArray.mk #[]).size+(ByteArray.mk l.toArray).size > 9223372036854775807):=by rw[size_mk];simp[ByteArray.size];omega
   go_wp2
   go_ret
   exact⟨by rw[← HL.out];simp[str,ByteArray.mk_append_mk],hb.out⟩
  ·have hq0:(0:Int) < (q:Int):=by omega
   have hl:=ht.out.le (by omega)
   have hs:¬((ByteArray.mk #[UInt8.ofNat (48+q % 10)]).size+(ByteArray.mk l.toArray).size > 9223372036854775807):=by rw[size_mk];simp[ByteArray.size];omega
   have HB':=hb.out
   go_wp2
   go_roundw
   case rel=>exact⟨q / 10,UInt8.ofNat (48+q % 10) :: l,by go_num,by rw[d48,cat],by omega,ht.out.step hr,hb.out.alloc _⟩
   case measure=>simp[intOf];omega
theorem refDigits_neg (w:World) (u:Nat) (h0:0 < u) (h1:u≤9223372036854775808) :
  Calls Tryz.prog 90 #[Zi (-(u:Int))] w fun e w'=>e=.returned (str (45 :: Lib.decDigits u))∧Grew w w':=by
 have hz:(-(u:Int) == 0)=false:=by rw[beq_eq_false_iff_ne];omega
 have hst:=one_string
 go_enter Tryz.func90,Tryz.ntmps90
 go_wp2
 go_loopw[4,5] (fun r s wr=>∃(q:Nat) (l:List UInt8),r=.int .u64 (q:Int)∧s=.string ⟨l.toArray⟩∧q≤u∧Hid (Tail u q l)∧Hid (Grew w wr)) (fun r _ _=>(intOf r).toNat)
 case atStart=>exact⟨u,[],by go_num,rfl,Nat.le_refl _,by unfold Tail;rw[Hid,if_neg (by omega),List.append_nil],Grew.refl _⟩
 case round=>
  obtain⟨q,l,rfl,rfl,hq,ht,hb⟩:=hrel
  by_cases hr:q=0
  ·subst hr
   have HL:Hid (l=Lib.decDigits u):=by have:=ht.out;unfold Tail at this;rwa [if_pos rfl] at this
   have hl:=ht.out.le (by omega)
   have hs:¬((ByteArray.mk #[45]).size+(ByteArray.mk l.toArray).size > 9223372036854775807):=by rw[size_mk];simp[ByteArray.size];omega
   go_wp2
   go_ret
   exact⟨by rw[← HL.out];simp[str,cat],hb.out⟩
  ·have hq0:(0:Int) < (q:Int):=by omega
   have hl:=ht.out.le (by omega)
   have hs:¬((ByteArray.mk #[UInt8.ofNat (48+q % 10)]).size+(ByteArray.mk l.toArray).size > 9223372036854775807):=by rw[size_mk];simp[ByteArray.size];omega
   go_wp2
   go_roundw
   case rel=>exact⟨q / 10,UInt8.ofNat (48+q % 10) :: l,by go_num,by rw[d48,cat],by omega,ht.out.step hr,hb.out.alloc _⟩
   case measure=>simp[intOf];omega
theorem refDigits_any (w:World) (n:Int) (h0 : -9223372036854775808≤n) (h1:n≤9223372036854775807) :
  Calls Tryz.prog 90 #[Zi n] w fun e w'=>e=.returned (.string ⟨(Lib.itoa n).toArray⟩)∧Grew w w':=by
 by_cases hn:n < 0
 ·obtain⟨u,hu⟩:∃u:Nat,n = -(u:Int):=⟨n.natAbs,by omega⟩
  subst hu
  rw[Lib.itoa_neg u (by omega)]
  exact refDigits_neg w u (by omega) (by omega)
 ·obtain⟨u,rfl⟩:=Int.eq_ofNat_of_zero_le (show 0≤n by omega)
  rw[Lib.itoa_nonneg]
  by_cases hz:u=0
  ·subst hz
   go_enter Tryz.func90,Tryz.ntmps90
   go_wp2
   go_ret
   exact⟨by rw[Lib.decDigits_one (by omega)];rfl,Grew.refl _⟩
  ·exact refDigits_pos w u (by omega) (by omega)
end Go.Proofs.YtlfooogmoigpfaaGreatDoor
namespace Go.Proofs.YtlfooogmoigpfaaGreatDoor
open Go.RowKit
theorem take_snoc8 (s:ByteArray) (k:Nat) (h:k < s.size):s.data.toList.take (k+1)=s.data.toList.take k ++ [s[k]]:=by
 rw[List.take_succ_eq_append_getElem (by simpa using h)];rfl
theorem mag_snoc (l:List UInt8) (c:UInt8):Dec.mag (l ++ [c])=Dec.add1 (Dec.mag l) c:=by simp[Dec.mag]
theorem u64_eq {a b:Int} (h:a=b):Value.int .u64 a=.int .u64 b:=by rw[h]
theorem add1_in (m:Nat) (c:UInt8) (h1:48≤(c.toNat:Int)) (h2:(c.toNat:Int)≤57):IntKind.u64.wrap (IntKind.u64.wrap (10 * (m:Int))+((c.toNat:Int) - 48))=((Dec.add1 m c:Nat):Int):=by
 rw[Dec.add1,if_pos (by omega),IntKind.wrap_u64,IntKind.wrap_u64]
 omega
theorem head_of (s:ByteArray) (h:0 < s.size):s.data.toList.head? = some s[0]:=by
 have hl:0 < s.data.toList.length:=by rw[Array.length_toList];exact h
 rw[List.head?_eq_getElem?,List.getElem?_eq_getElem hl];rfl
theorem cand_neg (s:ByteArray) (h:0 < s.size) (h45:s[0].toNat=45) {k:Nat} (hk:s.data.toList.take 20=s.data.toList.take k) (hm:Dec.mag (s.data.toList.take k) < 18446744073709551616) :
  wrap64 (IntKind.u64.wrap (-((Dec.mag (s.data.toList.take k):Nat):Int)))=Dec.cand s.data.toList:=by
 have e:s[0]=45:=by apply UInt8.toNat_inj.1;exact h45
 unfold Dec.cand
 rw[head_of s h,e,if_pos rfl,hk,IntKind.wrap_u64]
 generalize Dec.mag (s.data.toList.take k)=m at *
 unfold wrap64 Dec.asInt
 split <;> omega
theorem cand_pos (s:ByteArray) (h:∀hh:0 < s.size,s[0].toNat≠45) {k:Nat} (hk:s.data.toList.take 20=s.data.toList.take k) (hm:Dec.mag (s.data.toList.take k) < 18446744073709551616) :
  wrap64 ((Dec.mag (s.data.toList.take k):Nat):Int)=Dec.cand s.data.toList:=by
 have e:¬s.data.toList.head? = some 45:=by
  by_cases h0:0 < s.size
  ·rw[head_of s h0]
   intro hh
   have h1:=Option.some.inj hh
   exact h h0 (by rw[h1];rfl)
  ·have:s.data.toList=[]:=List.eq_nil_of_length_eq_zero (by rw[Array.length_toList];exact Nat.eq_zero_of_not_pos h0)
   rw[this];simp
 unfold Dec.cand
 rw[if_neg e,hk]
 generalize Dec.mag (s.data.toList.take k)=m at *
 unfold wrap64 Dec.asInt
 split <;> omega
theorem refNumber_any (w:World) (s:ByteArray) (hs:s.size≤maxLen) :
  Calls Tryz.prog 54 #[.string s] w fun e w'=>e=.returned (.tuple #[Zi (Dec.num2 s.data.toList).1,.bool (Dec.num2 s.data.toList).2])∧Below w.heap.size w w':=by
 unfold maxLen at hs
 go_enter Tryz.func54,Tryz.ntmps54
 go_wp2
 go_loop [4,5] (fun m i=>∃k:Nat,k≤s.size∧k≤20∧i=Zi k∧m=.int .u64 ((Dec.mag (s.data.toList.take k):Nat):Int)) (fun _ i=>s.size - (intOf i).toNat)
 case atStart=>exact⟨0,Nat.zero_le _,by omega,rfl,rfl⟩
 case round=>
  obtain⟨k,hk,hk20,rfl,rfl⟩:=hrel
  have hml:Dec.mag (s.data.toList.take k) < 18446744073709551616:=Dec.mag_lt _ 0 (by omega)
  by_cases hlt:k < s.size
  ·by_cases h20:k < 20
   ·have HT:Hid (Dec.mag (s.data.toList.take (k+1))=Dec.add1 (Dec.mag (s.data.toList.take k)) s[k]):=by rw[take_snoc8 s k hlt,mag_snoc];exact rfl
    generalize Dec.mag (s.data.toList.take k)=m at *
    go_wp2
    ·go_round
     case rel=>exact⟨k+1,by omega,by omega,by go_num,by rw[HT.out];exact u64_eq (add1_in m _ ‹48≤(s[k].toNat:Int)› ‹(s[k].toNat:Int)≤57›)⟩
     case measure=>simp[intOf];omega
    ·go_round
     case rel=>exact⟨k+1,by omega,by omega,by go_num,by rw[HT.out,Dec.add1,if_neg (by omega)]⟩
     case measure=>simp[intOf];omega
    ·go_round
     case rel=>exact⟨k+1,by omega,by omega,by go_num,by rw[HT.out,Dec.add1,if_neg (by omega)]⟩
     case measure=>simp[intOf];omega
   ·have HT:Hid (s.data.toList.take 20=s.data.toList.take k):=by rw[Hid,show k=20 by omega]
    by_cases h0:0 < s.size
    ·by_cases h45:s[0].toNat=45
     ·have hT:((s[0].toNat:Int) == 45)=true:=by rw[beq_iff_eq];omega
      have CE:Hid (wrap64 (IntKind.u64.wrap (-((Dec.mag (s.data.toList.take k):Nat):Int)))=Dec.cand s.data.toList):=cand_neg s h0 h45 HT.out hml
      have cb:=Dec.cand_bounds s.data.toList
      generalize Dec.mag (s.data.toList.take k)=m at *
      go_wp2_with fail
      rw[CE.out]
      refine (refDigits_any w _ cb.1 cb.2).mono ?_
      rintro e w1 ⟨rfl,hb1⟩
      by_cases hE:Lib.itoa (Dec.cand s.data.toList)=s.data.toList
      ·have hB:(!Lib.itoa (Dec.cand s.data.toList) == s.toList)=false:=by rw[byteList s];simp[hE]
       have HE:Hid (Dec.num2 s.data.toList=(Dec.cand s.data.toList,true)):=by unfold Dec.num2;rw[Hid,if_pos hE]
       clear hE
       go_wp2
       go_ret2
       exact⟨by rw[HE.out,← CE.out];rfl,hb1.below⟩
      ·have hB:(!Lib.itoa (Dec.cand s.data.toList) == s.toList)=true:=by rw[byteList s];simp[hE]
       have HE:Hid (Dec.num2 s.data.toList=(0,false)):=by unfold Dec.num2;rw[Hid,if_neg hE]
       clear hE
       go_wp2
       go_ret2
       exact⟨by rw[HE.out];rfl,hb1.below⟩
     ·have hT:((s[0].toNat:Int) == 45)=false:=by rw[beq_eq_false_iff_ne];omega
      have CE:Hid (wrap64 ((Dec.mag (s.data.toList.take k):Nat):Int)=Dec.cand s.data.toList):=cand_pos s (fun _=>h45) HT.out hml
      have cb:=Dec.cand_bounds s.data.toList
      generalize Dec.mag (s.data.toList.take k)=m at *
      go_wp2_with fail
      rw[CE.out]
      refine (refDigits_any w _ cb.1 cb.2).mono ?_
      rintro e w1 ⟨rfl,hb1⟩
      by_cases hE:Lib.itoa (Dec.cand s.data.toList)=s.data.toList
      ·have hB:(!Lib.itoa (Dec.cand s.data.toList) == s.toList)=false:=by rw[byteList s];simp[hE]
       have HE:Hid (Dec.num2 s.data.toList=(Dec.cand s.data.toList,true)):=by unfold Dec.num2;rw[Hid,if_pos hE]
       clear hE
       go_wp2
       go_ret2
       exact⟨by rw[HE.out,← CE.out];rfl,hb1.below⟩
      ·have hB:(!Lib.itoa (Dec.cand s.data.toList) == s.toList)=true:=by rw[byteList s];simp[hE]
       have HE:Hid (Dec.num2 s.data.toList=(0,false)):=by unfold Dec.num2;rw[Hid,if_neg hE]
       clear hE
       go_wp2
       go_ret2
       exact⟨by rw[HE.out];rfl,hb1.below⟩
    ·omega
  ·have HT:Hid (s.data.toList.take 20=s.data.toList.take k):=by
    have e:s.data.toList.length=s.size:=by rw[Array.length_toList];rfl
    rw[Hid,List.take_of_length_le (by omega),List.take_of_length_le (by omega)]
   by_cases h0:0 < s.size
   ·by_cases h45:s[0].toNat=45
    ·have hT:((s[0].toNat:Int) == 45)=true:=by rw[beq_iff_eq];omega
     have CE:Hid (wrap64 (IntKind.u64.wrap (-((Dec.mag (s.data.toList.take k):Nat):Int)))=Dec.cand s.data.toList):=cand_neg s h0 h45 HT.out hml
     have cb:=Dec.cand_bounds s.data.toList
     generalize Dec.mag (s.data.toList.take k)=m at *
     go_wp2_with fail
     rw[CE.out]
     refine (refDigits_any w _ cb.1 cb.2).mono ?_
     rintro e w1 ⟨rfl,hb1⟩
     by_cases hE:Lib.itoa (Dec.cand s.data.toList)=s.data.toList
     ·have hB:(!Lib.itoa (Dec.cand s.data.toList) == s.toList)=false:=by rw[byteList s];simp[hE]
      have HE:Hid (Dec.num2 s.data.toList=(Dec.cand s.data.toList,true)):=by unfold Dec.num2;rw[Hid,if_pos hE]
      clear hE
      go_wp2
      go_ret2
      exact⟨by rw[HE.out,← CE.out];rfl,hb1.below⟩
     ·have hB:(!Lib.itoa (Dec.cand s.data.toList) == s.toList)=true:=by rw[byteList s];simp[hE]
      have HE:Hid (Dec.num2 s.data.toList=(0,false)):=by unfold Dec.num2;rw[Hid,if_neg hE]
      clear hE
      go_wp2
      go_ret2
      exact⟨by rw[HE.out];rfl,hb1.below⟩
    ·have hT:((s[0].toNat:Int) == 45)=false:=by rw[beq_eq_false_iff_ne];omega
     have CE:Hid (wrap64 ((Dec.mag (s.data.toList.take k):Nat):Int)=Dec.cand s.data.toList):=cand_pos s (fun _=>h45) HT.out hml
     have cb:=Dec.cand_bounds s.data.toList
     generalize Dec.mag (s.data.toList.take k)=m at *
     go_wp2_with fail
     rw[CE.out]
     refine (refDigits_any w _ cb.1 cb.2).mono ?_
     rintro e w1 ⟨rfl,hb1⟩
     by_cases hE:Lib.itoa (Dec.cand s.data.toList)=s.data.toList
     ·have hB:(!Lib.itoa (Dec.cand s.data.toList) == s.toList)=false:=by rw[byteList s];simp[hE]
      have HE:Hid (Dec.num2 s.data.toList=(Dec.cand s.data.toList,true)):=by unfold Dec.num2;rw[Hid,if_pos hE]
      clear hE
      go_wp2
      go_ret2
      exact⟨by rw[HE.out,← CE.out];rfl,hb1.below⟩
     ·have hB:(!Lib.itoa (Dec.cand s.data.toList) == s.toList)=true:=by rw[byteList s];simp[hE]
      have HE:Hid (Dec.num2 s.data.toList=(0,false)):=by unfold Dec.num2;rw[Hid,if_neg hE]
      clear hE
      go_wp2
      go_ret2
      exact⟨by rw[HE.out];rfl,hb1.below⟩
   ·have CE:Hid (wrap64 ((Dec.mag (s.data.toList.take k):Nat):Int)=Dec.cand s.data.toList):=cand_pos s (fun hh=>absurd hh h0) HT.out hml
    have cb:=Dec.cand_bounds s.data.toList
    generalize Dec.mag (s.data.toList.take k)=m at *
    go_wp2_with fail
    rw[CE.out]
    refine (refDigits_any w _ cb.1 cb.2).mono ?_
    rintro e w1 ⟨rfl,hb1⟩
    by_cases hE:Lib.itoa (Dec.cand s.data.toList)=s.data.toList
    ·have hB:(!Lib.itoa (Dec.cand s.data.toList) == s.toList)=false:=by rw[byteList s];simp[hE]
     have HE:Hid (Dec.num2 s.data.toList=(Dec.cand s.data.toList,true)):=by unfold Dec.num2;rw[Hid,if_pos hE]
     clear hE
     go_wp2
     go_ret2
     exact⟨by rw[HE.out,← CE.out];rfl,hb1.below⟩
    ·have hB:(!Lib.itoa (Dec.cand s.data.toList) == s.toList)=true:=by rw[byteList s];simp[hE]
     have HE:Hid (Dec.num2 s.data.toList=(0,false)):=by unfold Dec.num2;rw[Hid,if_neg hE]
     clear hE
     go_wp2
     go_ret2
     exact⟨by rw[HE.out];rfl,hb1.below⟩
end Go.Proofs.YtlfooogmoigpfaaGreatDoor
namespace Go.Proofs.YtlfooogmoigpfaaGreatDoor
open Go.RowKit Go.Sort Go.Shelf
theorem pre_takeN {t:List UInt8} (h:[48,120].isPrefixOf t=true):t.take 2=[48,120]:=by
 obtain⟨r,hr⟩:=List.isPrefixOf_iff_prefix.1 h
 rw[← hr]
 rfl
theorem rnumber_any (w:World) (t:List UInt8) (hl:t.length≤65536):Calls Tryz.prog 30 #[.string (S t)] w fun e w'=>e=.returned (.tuple #[Zi (numO t).1,.bool (numO t).2])∧Below w.heap.size w w':=by
 have HNm:Hid (Calls Tryz.prog 54 #[.string (S t)] w fun e w'=>e=.returned (.tuple #[Zi (Dec.num1 t).1,.bool (Dec.num1 t).2])∧Below w.heap.size w w'):=by
  have h:=refNumber_any w (S t) (by rw[S_size];unfold maxLen;omega)
  rw[S_list,← Dec.num_same] at h
  exact h
 obtain⟨n,hn⟩:=nm (t.length)
 have hsz:(S t).size=n:=by rw[S_size,hn]
 have HN:=Zh hn
 have hn9:n≤65536:=by omega
 have x1:(S t).extract 0 2=S (t.take 2):=by rw[S_cut,List.drop_zero]
 have hts:=S_toList (t.take 2)
 clear hn hl
 by_cases hbit:[48,120].isPrefixOf t=true∧2 < n∧n≤18
 ·obtain⟨hp,h2,h18⟩:=hbit
  have HB:=Zh (numO_x hp)
  have hq:((S (t.take 2)).toList == [48,120])=true:=by
   rw[hts]
   have h3:=pre_takeN hp
   rw[h3];rfl
  have hI2:(n:Int) > 2:=by omega
  have hI2n:(2:Int)≤(n:Int):=by omega
  have hI18:(n:Int)≤18:=by omega
  have HV:Hid (Value.tuple #[Zi (numO t).1,.bool (numO t).2]=optV (bitsL (t.drop 2) 0)):=by
   show _=_
   rw[HB.out,if_neg (by rw[List.length_drop,← HN.out];omega)]
  have HR:Hid (Below w.heap.size w w):=Below.refl _ _
  rw[HV.out]
  clear HV HB hp hts HNm
  generalize S (t.take 2)=u2 at *
  go_enter Tryz.func30,Tryz.ntmps30
  go_wp2_with fail
  go_loopw[4,5] (fun x y wr=>∃(k U:Nat),2≤k∧k≤n∧x=.int .u64 (U:Int)∧y=Zi (k:Int)∧wr=w∧Hid (bitsL ((t.drop 2).take (k - 2)) 0=some U)) (fun _ y _=>n - (intOf y).toNat)
  case atStart=>exact⟨2,0,by omega,by omega,rfl,rfl,rfl,rfl⟩
  case round=>
   obtain⟨k,U,hk2,hkn,rfl,rfl,hwe,HI⟩:=hrel
   subst hwe
   by_cases hlt:k < n
   ·have hkl:k < t.length:=by rw[← HN.out];exact hlt
    have hkS:k < (S t).size:=by rw[S_size];exact hkl
    obtain⟨c,hc⟩:=nm (t[k].toNat)
    have hget:((S t)[k]'hkS).toNat=c:=by rw[hc];exact congrArg UInt8.toNat (S_get t k hkS)
    have hc255:c≤255:=by have:=UInt8.toNat_lt t[k];omega
    have hkI:(k:Int) < (n:Int):=by omega
    have HDg:=Zh (rdigit_any wr c hc255)
    have hU:U < 1152921504606846976:=by
     have h1:=bitsL_lt _ _ _ HI.out
     have h2:((t.drop 2).take (k - 2)).length≤15:=by rw[List.length_take,List.length_drop,← HN.out];omega
     have h3:16 ^ ((t.drop 2).take (k - 2)).length≤16 ^ 15:=Nat.pow_le_pow_right (by omega) h2
     have h4:16 ^ 15=1152921504606846976:=by decide
     omega
    have hUI:(U:Int) < 1152921504606846976:=by omega
    have HSt:Hid ((t.drop 2).take (k+1 - 2)=(t.drop 2).take (k - 2) ++ [t[k]]):=by
     show _=_
     rw[show k+1 - 2=(k - 2)+1 by omega,List.take_succ_eq_append_getElem (by rw[List.length_drop,← HN.out];omega)]
     simp only[List.getElem_drop,show 2+(k - 2)=k by omega]
     rfl
    have HAl:Hid (t.drop 2=(t.drop 2).take (k - 2) ++ t[k] :: t.drop (k+1)):=by
     show _=_
     have h1:(t.drop 2).drop (k - 2)=t[k] :: t.drop (k+1):=by
      rw[List.drop_drop,show 2+(k - 2)=k by omega,List.drop_eq_getElem_cons hkl]
      rfl
     rw[← h1,List.take_append_drop]
    have HHx:Hid (hexD t[k]=if 48≤c∧c≤57 then some (c - 48) else if 97≤c∧c≤102 then some (c - 87) else none):=by show _=_;rw[hc];rfl
    have HGo:Hid (∀d,hexD t[k]=some d→bitsL ((t.drop 2).take (k+1 - 2)) 0=some (16 * U+d)):=fun d hd=>by
     rw[HSt.out,bitsL_app,HI.out]
     simp[bitsL,hd]
    have HNo:Hid (hexD t[k]=none→bitsL (t.drop 2) 0=none):=fun hd=>by
     rw[HAl.out,bitsL_app,HI.out]
     simp[bitsL,hd]
    clear hc HI HSt HAl hU
    by_cases h1:48≤c∧c≤57
    ·have hd:diC c=true:=by simp[diC,h1]
     rw[hd] at HDg
     have HF:=Zh (HGo.out (c - 48) (by rw[HHx.out,if_pos h1]))
     have i1:(48:Int)≤(c:Int):=by omega
     have i2:(c:Int)≤57:=by omega
     clear hd HHx HGo HNo h1
     go_wp2_with (first | (go_at_call 29;refine HDg.out.mono ?_;rintro e wE ⟨rfl,hwE⟩;have hwE':=hwE.symm;subst hwE';clear hwE))
     go_roundw
     case rel=>exact⟨k+1,16 * U+(c - 48),by omega,by omega,congrArg (Value.int .u64) (by omega),by go_num,trivial,HF.out⟩
     case measure=>simp[intOf];omega
    ·have hd:diC c=false:=by simp[diC];omega
     rw[hd] at HDg
     by_cases h2:97≤c
     ·have i1:(97:Int)≤(c:Int):=by omega
      have i1':(c:Int)≥97:=by omega
      by_cases h3:c≤102
      ·have HF:=Zh (HGo.out (c - 87) (by rw[HHx.out,if_neg h1,if_pos ⟨h2,h3⟩]))
       have i2:(c:Int)≤102:=by omega
       clear hd HHx HGo HNo h1
       go_wp2_with (first | (go_at_call 29;refine HDg.out.mono ?_;rintro e wE ⟨rfl,hwE⟩;have hwE':=hwE.symm;subst hwE';clear hwE))
       go_roundw
       case rel=>exact⟨k+1,16 * U+(c - 87),by omega,by omega,congrArg (Value.int .u64) (by omega),by go_num,trivial,HF.out⟩
       case measure=>simp[intOf];omega
      ·have HF:=Zh (HNo.out (by rw[HHx.out,if_neg h1,if_neg (by omega)]))
       have i2:decide ((c:Int)≤102)=false:=decide_eq_false (by omega)
       clear hd HHx HGo HNo h1
       go_wp2_with (first | (go_at_call 29;refine HDg.out.mono ?_;rintro e wE ⟨rfl,hwE⟩;have hwE':=hwE.symm;subst hwE';clear hwE))
       go_ret2
       exact⟨by rw[HF.out];rfl,HR.out⟩
     ·have HF:=Zh (HNo.out (by rw[HHx.out,if_neg h1,if_neg (by omega)]))
      have i1:decide ((97:Int)≤(c:Int))=false:=decide_eq_false (by omega)
      clear hd HHx HGo HNo h1
      go_wp2_with (first | (go_at_call 29;refine HDg.out.mono ?_;rintro e wE ⟨rfl,hwE⟩;have hwE':=hwE.symm;subst hwE';clear hwE))
      go_ret2
      exact⟨by rw[HF.out];rfl,HR.out⟩
   ·have hkI:¬(k:Int) < (n:Int):=by omega
    have hke:k=n:=by omega
    have HF:Hid (bitsL (t.drop 2) 0=some U):=by
     have h:=HI.out
     rw[List.take_of_length_le (by rw[List.length_drop,← HN.out];omega)] at h
     exact h
    have hU:U < 18446744073709551616:=by
     have h1:=bitsL_lt _ _ _ HF.out
     have h2:(t.drop 2).length≤16:=by rw[List.length_drop,← HN.out];omega
     have h3:16 ^ (t.drop 2).length≤16 ^ 16:=Nat.pow_le_pow_right (by omega) h2
     have h4:16 ^ 16=18446744073709551616:=by decide
     omega
    have hw:=i64N_wrap U hU
    clear HI hke hU
    go_wp2_with fail
    go_ret2
    exact⟨by rw[HF.out];rfl,HR.out⟩
 ·have HE:Hid (numO t=Dec.num1 t):=by
   show _=_
   unfold numO
   by_cases hp:[48,120].isPrefixOf t=true
   ·rw[if_pos hp,if_pos (by rw[← HN.out];have hz:¬(2 < n∧n≤18):=fun h=>hbit ⟨hp,h.1,h.2⟩;have h:=(List.isPrefixOf_iff_prefix.1 hp).length_le;simp only[List.length_cons,List.length_nil] at h;rw[← HN.out] at h;omega),dec_no_x hp]
   ·rw[if_neg hp]
  rw[HE.out]
  clear HE
  obtain⟨⟨x,b⟩,hxb⟩:∃q,q=Dec.num1 t:=⟨_,rfl⟩
  rw[← hxb] at HNm ⊢
  simp only at HNm ⊢
  clear hxb
  by_cases h2:2 < n
  ·have hI2:(n:Int) > 2:=by omega
   have hI2n:(2:Int)≤(n:Int):=by omega
   by_cases hp:[48,120].isPrefixOf t=true
   ·have h18:¬n≤18:=fun h=>hbit ⟨hp,h2,h⟩
    have hI18:¬(n:Int)≤18:=by omega
    have hI18B:decide ((n:Int)≤18)=false:=decide_eq_false hI18
    have hq:((S (t.take 2)).toList == [48,120])=true:=by
     rw[hts,pre_takeN hp];rfl
    clear hp hbit hts h18
    generalize S (t.take 2)=u2 at *
    go_enter Tryz.func30,Tryz.ntmps30
    go_wp2_with fail
    refine HNm.out.mono ?_
    rintro e w2 ⟨rfl,hg⟩
    have HG2:=Zh hg
    clear hg
    go_wp2_with fail
    go_ret2
    exact⟨rfl,HG2.out⟩
   ·have hq:((S (t.take 2)).toList == [48,120])=false:=by
     rw[hts]
     cases he:(t.take 2 == [48,120]) with
     | false=>rfl
     | true=>
      exfalso
      apply hp
      rw[List.isPrefixOf_iff_prefix,← beq_iff_eq.1 he]
      exact List.take_prefix _ _
    clear hp hbit hts
    generalize S (t.take 2)=u2 at *
    go_enter Tryz.func30,Tryz.ntmps30
    go_wp2_with fail
    refine HNm.out.mono ?_
    rintro e w2 ⟨rfl,hg⟩
    have HG2:=Zh hg
    clear hg
    go_wp2_with fail
    go_ret2
    exact⟨rfl,HG2.out⟩
  ·have hI2:¬(n:Int) > 2:=by omega
   have hI2B:decide ((n:Int) > 2)=false:=decide_eq_false hI2
   clear hbit hts
   go_enter Tryz.func30,Tryz.ntmps30
   go_wp2_with fail
   refine HNm.out.mono ?_
   rintro e w2 ⟨rfl,hg⟩
   have HG2:=Zh hg
   clear hg
   go_wp2_with fail
   go_ret2
   exact⟨rfl,HG2.out⟩
end Go.Proofs.YtlfooogmoigpfaaGreatDoor
