import Derived.Test.YtlfooogmoigpfaaGreatDoorRows
import Derived.WalkKit
import Derived.WalkLawsBesides
import Derived.ProofKit
import Derived.OpenShut
import Derived.BigQuiet
import Derived.Deep.QuietTactic
import Derived.Laws.BitsAllLaws
import Derived.Laws.StructEq
import Derived.Shelf.SlSortCmp.QuietGrown
import Derived.Shelf.SlicesE.Kit
import Derived.Laws.RangeAny
import Derived.Lib.RuneLoops
import Derived.Lib.IndexLaws
import Derived.Lib.OthersKept
import Derived.Shelf.LaysM
import Derived.Shelf.Lays
import Derived.Shelf.Strings.Prefix
import Derived.Shelf.Small.Wraps
import Derived.Shelf.Strings.Count
import Derived.Shelf.Strings.Search3
import Derived.Shelf.Strings.LastIndex
import Derived.Shelf.Strings.Runes
import Derived.Shelf.Unicode.DecodeAny
import Derived.Shelf.Strconv.Clone
import Derived.Test.YtlfooogmoigpfaaGreatDoorProg
import Derived.Deep.RegionHeld3
import Derived.Deep.DeepCutAuto
set_option maxRecDepth 100000
set_option maxHeartbeats 8000000
namespace Go.Proofs.YtlfooogmoigpfaaGreatDoor
theorem nm{α:Sort _}(a:α):∃b,b=a:=⟨_,rfl⟩
abbrev Zi(x:Int):Go.Value:=.int .i64 x
abbrev Zn:Go.Value:=.slice none 0 0
abbrev Ze:Go.Value:=.string ⟨#[]⟩
abbrev Zp(b:Nat):Go.Value:=.pointer (some ⟨b,0,none⟩)
end Go.Proofs.YtlfooogmoigpfaaGreatDoor
namespace Go.Proofs.YtlfooogmoigpfaaGreatDoor
abbrev K:=Int × Int
def lt (a b:K):Bool:=decide (a.1 < b.1) || (decide (a.1=b.1) && decide (a.2 < b.2))
end Go.Proofs.YtlfooogmoigpfaaGreatDoor
namespace Go.Proofs.YtlfooogmoigpfaaGreatDoor
open Go.RowKit Go.Sort
theorem mixed:Tryz.prog.follows .mixedOrders=true:=by kernel_rfl
def Grew (w w':World):Prop:=∃q os,w'=grow (w.drewN q) os
theorem Grew.refl (w:World):Grew w w:=⟨0,#[],by rw[grow_empty];rfl⟩
theorem Grew.trans {a b c:World} (h1:Grew a b) (h2:Grew b c):Grew a c:=by
 obtain⟨q,os,rfl⟩:=h1
 obtain⟨q',os',rfl⟩:=h2
 exact⟨q+q',os ++ os',by show grow (grow ((a.drewN q).drewN q') os) os'=_;rw[grow_grow,World.drewN_drewN]⟩
theorem Grew.alloc {a b:World} (h:Grew a b) (o:Obj):Grew a (b.alloc o):=h.trans ⟨0,#[o],alloc_eq_grow _ _⟩
theorem Grew.drewN {a b:World} (h:Grew a b) (n:Nat):Grew a (b.drewN n):=h.trans ⟨n,#[],by rw[grow_empty]⟩
theorem Grew.drew {a b:World} (h:Grew a b):Grew a b.drew:=h.drewN 1
theorem Grew.size {a b:World} (h:Grew a b):a.heap.size≤b.heap.size:=by obtain⟨q,os,rfl⟩:=h;simp[Sort.grow]
theorem Grew.heap {a b:World} (h:Grew a b) {k:Nat} (hk:k < a.heap.size):b.heap[k]? = a.heap[k]?:=by
 obtain⟨q,os,rfl⟩:=h;exact Sort.heap_grow_old (a.drewN q) os hk
theorem Grew.below {a b:World} (h:Grew a b):Below a.heap.size a b:=by
 refine⟨?_,?_,?_,h.size,fun k hk=>h.heap hk⟩ <;> obtain⟨q,os,rfl⟩:=h <;> rfl
theorem cell_lt {w:World} {p:Addr} {v:Value} (hc:w.cell? p=some v):p.block < w.heap.size:=by
 by_cases hlt:p.block < w.heap.size
 ·exact hlt
 ·have hn:w.heap[p.block]? = none:=Array.getElem?_eq_none_iff.2 (by omega)
  simp[World.cell?,hn] at hc
theorem Grew.cell {a b:World} (h:Grew a b) {p:Addr} {v:Value} (hc:a.cell? p=some v):b.cell? p=some v:=by
 obtain⟨q,os,rfl⟩:=h
 exact cell_grown (cell_lt hc) hc q os
theorem heap_alloc_new {w:World} (o:Obj) (k:Nat) (h:k=w.heap.size):(w.alloc o).heap[k]? = some o:=by
 subst h;show (w.heap.push _)[w.heap.size]? = _;simp
theorem heap_alloc_old {w:World} (o:Obj) (k:Nat) (h:k < w.heap.size):(w.alloc o).heap[k]? = w.heap[k]?:=by
 show (w.heap.push _)[k]? = _;rw[Array.getElem?_push_lt h];exact (Array.getElem?_eq_getElem h).symm
def S (l:List UInt8):ByteArray:=⟨l.toArray⟩
theorem S_size (l:List UInt8):(S l).size=l.length:=by simp[S,ByteArray.size]
theorem S_of (s:ByteArray):S s.data.toList=s:=by simp[S]
theorem S_list (l:List UInt8):(S l).data.toList=l:=by simp[S]
theorem blk_lt {w:World} {k:Nat} {o:Obj} (h:w.heap[k]? = some o):k < w.heap.size:=(Array.getElem?_eq_some_iff.1 h).1
theorem Zh {p:Prop} (h:p):Hid p:=h
theorem S_get (l:List UInt8) (i:Nat) (h:i < (S l).size):(S l)[i]'h=l[i]'(by rw[S_size] at h;exact h):=by
 show (S l).data[i]=_
 simp[S]
end Go.Proofs.YtlfooogmoigpfaaGreatDoor
namespace Go.Proofs.YtlfooogmoigpfaaGreatDoor
open Go.RowKit
def blC (c:Nat):Bool:=decide (c=32) || decide (c=9) || decide (c=13) || decide (c=10)
def leC (c:Nat):Bool:=(decide (97≤c) && decide (c≤122)) || (decide (65≤c) && decide (c≤90))
def diC (c:Nat):Bool:=decide (48≤c) && decide (c≤57)
def woC (c:Nat):Bool:=leC c || diC c || decide (c=95)
def nlC (c:Nat):Bool:=!decide (c=10)
def frB (f:Nat→Bool):List UInt8→Nat
 | []=>0
 | b :: r=>if f b.toNat then frB f r+1 else 0
theorem frB_le (f:Nat→Bool):∀l,frB f l≤l.length
 | []=>Nat.le_refl _
 | b :: r=>by
  unfold frB
  split
  ·have:=frB_le f r;simp;omega
  ·simp
theorem frB_in (f:Nat→Bool):∀(l:List UInt8) (i:Nat) (h:i < frB f l),f (l[i]'(Nat.lt_of_lt_of_le h (frB_le f l))).toNat=true
 | [],i,h=>by simp[frB] at h
 | b :: r,0,h=>by
  unfold frB at h
  split at h
  ·rename_i hb;simpa using hb
  ·omega
 | b :: r,i+1,h=>by
  unfold frB at h
  split at h
  ·simpa using frB_in f r i (by omega)
  ·omega
theorem frB_of (f:Nat→Bool):∀(l:List UInt8) (n:Nat),n≤l.length→(∀i (h:i < l.length),i < n→f l[i].toNat=true)→(∀h:n < l.length,f l[n].toNat=false)→frB f l=n
 | [],n,h,_,_=>by simp at h;simp[frB,h]
 | b :: r,0,_,_,h2=>by
  have:=h2 (by simp)
  simp only[List.getElem_cons_zero] at this
  simp[frB,this]
 | b :: r,n+1,h,h1,h2=>by
  have hb:=h1 0 (by simp) (by omega)
  simp only[List.getElem_cons_zero] at hb
  have ih:=frB_of f r n (by simpa using h) (fun i hi hin=>by have:=h1 (i+1) (by simp;omega) (by omega);simpa using this) (fun hn=>by have:=h2 (by simp;omega);simpa using this)
  simp[frB,hb,ih]
def gapL (l:List UInt8):Nat:=
 if [47,47].isPrefixOf l then frB nlC l
 else if [47,42].isPrefixOf l then (if Lib.index (l.drop 2) [42,47] < 0 then 0 else (Lib.index (l.drop 2) [42,47]).toNat+4)
 else frB blC l
def spS (p:Nat × Nat) (c:UInt8):Nat × Nat:=if c.toNat=10 then (p.1+1,1) else (p.1,p.2+1)
def spL (p:Nat × Nat) (l:List UInt8):Nat × Nat:=l.foldl spS p
def nlN (l:List UInt8):Nat:=l.countP (fun c=>decide (c.toNat=10))
theorem spL_app (p:Nat × Nat) (a b:List UInt8):spL p (a ++ b)=spL (spL p a) b:=by simp[spL]
theorem spL_none:∀(l:List UInt8) (p:Nat × Nat),(∀c∈l,c.toNat≠10)→spL p l=(p.1,p.2+l.length)
 | [],p,_=>by simp[spL]
 | c :: r,p,h=>by
  have h1:=h c (by simp)
  have e:spL p (c :: r)=spL (p.1,p.2+1) r:=by
   show (c :: r).foldl spS p=_
   simp only[List.foldl_cons,spS,if_neg h1]
   rfl
  rw[e,spL_none r _ (fun d hd=>h d (by simp[hd]))]
  simp;omega
theorem spL_line:∀(l:List UInt8) (p:Nat × Nat),(spL p l).1=p.1+nlN l
 | [],p=>by simp[spL,nlN]
 | c :: r,p=>by
  have e:spL p (c :: r)=spL (spS p c) r:=rfl
  rw[e,spL_line r]
  unfold nlN
  rw[List.countP_cons]
  unfold spS
  split <;> simp_all <;> omega
theorem spL_last (a b:List UInt8) (p:Nat × Nat) (c:UInt8) (hc:c.toNat=10) (hb:∀d∈b,d.toNat≠10):(spL p (a ++ c :: b)).2=b.length+1:=by
 have e:spL p (a ++ c :: b)=spL (spS (spL p a) c) b:=by rw[spL_app];rfl
 rw[e,spL_none b _ hb]
 unfold spS
 rw[if_pos hc]
 simp;omega
theorem dec_bytes (s:ByteArray) (pos:Nat) (h:pos < s.size) (ha:128≤(s.get! pos).toNat):pos+(Utf8.decode s pos).2≤s.size∧∀i,i < (Utf8.decode s pos).2→128≤(s.get! (pos+i)).toNat:=by
 unfold Utf8.decode
 simp only[Nat.add_zero]
 rw[if_neg (by omega)]
 have one:∀i,i < 1→128≤(s.get! (pos+i)).toNat:=fun i hi=>by rw[show i=0 by omega];exact ha
 split
 ·next h1=>
  simp only[Bool.and_eq_true,beq_iff_eq,decide_eq_true_eq] at h1
  split
  ·refine⟨by show pos+2≤_;omega,fun i hi=>?_⟩
   have hi':i < 2:=hi
   rcases (show i=0∨i=1 by omega) with rfl | rfl
   ·exact ha
   ·omega
  ·exact⟨by show pos+1≤_;omega,one⟩
 ·split
  ·next h1=>
   simp only[Bool.and_eq_true,beq_iff_eq,decide_eq_true_eq] at h1
   split
   ·refine⟨by show pos+3≤_;omega,fun i hi=>?_⟩
    have hi':i < 3:=hi
    rcases (show i=0∨i=1∨i=2 by omega) with rfl | rfl | rfl
    ·exact ha
    ·omega
    ·omega
   ·exact⟨by show pos+1≤_;omega,one⟩
  ·split
   ·next h1=>
    simp only[Bool.and_eq_true,beq_iff_eq,decide_eq_true_eq] at h1
    split
    ·refine⟨by show pos+4≤_;omega,fun i hi=>?_⟩
     have hi':i < 4:=hi
     rcases (show i=0∨i=1∨i=2∨i=3 by omega) with rfl | rfl | rfl | rfl
     ·exact ha
     ·omega
     ·omega
     ·omega
    ·exact⟨by show pos+1≤_;omega,one⟩
   ·exact⟨by show pos+1≤_;omega,one⟩
end Go.Proofs.YtlfooogmoigpfaaGreatDoor
namespace Go.Proofs.YtlfooogmoigpfaaGreatDoor
open Go.RowKit Go.Sort
abbrev fnV (f:Nat):Value:=.func (.func f) #[] #[]
theorem isBlank_any (w:World) (c:Nat) (_hc:c≤2147483647):Calls Tryz.prog 99 #[.int .i32 (c:Int)] w fun e w'=>e=.returned (.bool (blC c))∧w'=w:=by
 unfold blC
 by_cases h32:c=32
 ·subst h32
  go_enter Tryz.func99,Tryz.ntmps99
  go_wp2
  go_ret
  exact⟨rfl,rfl⟩
 by_cases h9:c=9
 ·subst h9
  go_enter Tryz.func99,Tryz.ntmps99
  go_wp2
  go_ret
  exact⟨rfl,rfl⟩
 by_cases h13:c=13
 ·subst h13
  go_enter Tryz.func99,Tryz.ntmps99
  go_wp2
  go_ret
  exact⟨rfl,rfl⟩
 by_cases h10:c=10
 ·subst h10
  go_enter Tryz.func99,Tryz.ntmps99
  go_wp2
  go_ret
  exact⟨rfl,rfl⟩
 have q1:((c:Int) == 32)=false:=by simp;omega
 have q2:((c:Int) == 9)=false:=by simp;omega
 have q3:((c:Int) == 13)=false:=by simp;omega
 have q4:((c:Int) == 10)=false:=by simp;omega
 rw[show (decide (c=32) || decide (c=9) || decide (c=13) || decide (c=10))=false by simp[h32,h9,h13,h10]]
 clear h32 h9 h13 h10
 go_enter Tryz.func99,Tryz.ntmps99
 go_wp2
 go_ret
 exact⟨rfl,rfl⟩
theorem notFeed_any (w:World) (c:Nat) (_hc:c≤2147483647):Calls Tryz.prog 97 #[.int .i32 (c:Int)] w fun e w'=>e=.returned (.bool (nlC c))∧w'=w:=by
 unfold nlC
 by_cases h:c=10
 ·subst h
  go_enter Tryz.func97,Tryz.ntmps97
  go_wp2
  go_ret
  exact⟨rfl,rfl⟩
 ·have q4:((c:Int) == 10)=false:=by simp;omega
  have q5:((c:Int) != 10)=true:=by simp;omega
  rw[show (!decide (c=10))=true by simp[h]]
  clear h
  go_enter Tryz.func97,Tryz.ntmps97
  go_wp2
  go_ret
  exact⟨rfl,rfl⟩
theorem isDigit_any (w:World) (c:Nat) (_hc:c≤2147483647):Calls Tryz.prog 70 #[.int .i32 (c:Int)] w fun e w'=>e=.returned (.bool (diC c))∧w'=w:=by
 have q1:decide ((48:Int)≤(c:Int))=decide (48≤c):=by simp;omega
 have q2:decide ((c:Int)≤57)=decide (c≤57):=by simp;omega
 unfold diC
 by_cases h1:48≤c
 ·have p1:(48:Int)≤(c:Int):=by omega
  rw[decide_eq_true h1]
  by_cases h2:c≤57
  ·have p2:(c:Int)≤57:=by omega
   rw[decide_eq_true h2]
   clear q1 q2 h1 h2
   go_enter Tryz.func70,Tryz.ntmps70
   go_wp2
   go_ret
   exact⟨rfl,rfl⟩
  ·have p2:¬(c:Int)≤57:=by omega
   rw[decide_eq_false h2]
   clear q1 q2 h1 h2
   go_enter Tryz.func70,Tryz.ntmps70
   go_wp2
   go_ret
   exact⟨rfl,rfl⟩
 ·have p1:¬(48:Int)≤(c:Int):=by omega
  rw[decide_eq_false h1]
  clear q1 q2 h1
  go_enter Tryz.func70,Tryz.ntmps70
  go_wp2
  go_ret
  exact⟨by simp,rfl⟩
theorem isLetter_any (w:World) (c:Nat) (_hc:c≤2147483647):Calls Tryz.prog 66 #[.int .i32 (c:Int)] w fun e w'=>e=.returned (.bool (leC c))∧w'=w:=by
 by_cases h1:97≤c
 ·have p1:(97:Int)≤(c:Int):=by omega
  by_cases h2:c≤122
  ·have p2:(c:Int)≤122:=by omega
   have e:leC c=true:=by simp[leC,h1,h2]
   rw[e]
   clear h1 h2 e
   go_enter Tryz.func66,Tryz.ntmps66
   go_wp2
   go_ret
   exact⟨rfl,rfl⟩
  ·have p2:¬(c:Int)≤122:=by omega
   have p3:(65:Int)≤(c:Int):=by omega
   have p4:¬(c:Int)≤90:=by omega
   have e:leC c=false:=by simp[leC];omega
   rw[e]
   clear h1 h2 e
   go_enter Tryz.func66,Tryz.ntmps66
   go_wp2
   go_ret
   exact⟨rfl,rfl⟩
 ·have p1:¬(97:Int)≤(c:Int):=by omega
  by_cases h2:65≤c
  ·have p3:(65:Int)≤(c:Int):=by omega
   by_cases h3:c≤90
   ·have p4:(c:Int)≤90:=by omega
    have e:leC c=true:=by simp[leC,h2,h3]
    rw[e]
    clear h1 h2 h3 e
    go_enter Tryz.func66,Tryz.ntmps66
    go_wp2
    go_ret
    exact⟨rfl,rfl⟩
   ·have p4:¬(c:Int)≤90:=by omega
    have e:leC c=false:=by simp[leC];omega
    rw[e]
    clear h1 h2 h3 e
    go_enter Tryz.func66,Tryz.ntmps66
    go_wp2
    go_ret
    exact⟨rfl,rfl⟩
  ·have p3:¬(65:Int)≤(c:Int):=by omega
   have e:leC c=false:=by simp[leC];omega
   rw[e]
   clear h1 h2 e
   go_enter Tryz.func66,Tryz.ntmps66
   go_wp2
   go_ret
   exact⟨rfl,rfl⟩
theorem inWord_any (w:World) (c:Nat) (hc:c≤2147483647):Calls Tryz.prog 69 #[.int .i32 (c:Int)] w fun e w'=>e=.returned (.bool (woC c))∧w'=w:=by
 have HL:=Zh (isLetter_any w c hc)
 have HD:=Zh (isDigit_any w c hc)
 unfold woC
 generalize leC c=a at *
 generalize diC c=b at *
 by_cases h:c=95
 ·rw[decide_eq_true h]
  have q:(c:Int)=95:=by omega
  rw[q] at HL HD ⊢
  clear h q hc
  cases a <;> cases b
  all_goals
   go_enter Tryz.func69,Tryz.ntmps69
   go_wp2_with (first | (go_at_call 66;refine HL.out.mono ?_;rintro e wE ⟨rfl,hwE⟩;have hwE':=hwE.symm;subst hwE';clear hwE) | (go_at_call 70;refine HD.out.mono ?_;rintro e wE ⟨rfl,hwE⟩;have hwE':=hwE.symm;subst hwE';clear hwE))
   go_ret
   exact⟨rfl,rfl⟩
 ·rw[decide_eq_false h]
  have q:((c:Int) == 95)=false:=by simp;omega
  clear h hc
  cases a <;> cases b
  all_goals
   go_enter Tryz.func69,Tryz.ntmps69
   go_wp2_with (first | (go_at_call 66;refine HL.out.mono ?_;rintro e wE ⟨rfl,hwE⟩;have hwE':=hwE.symm;subst hwE';clear hwE) | (go_at_call 70;refine HD.out.mono ?_;rintro e wE ⟨rfl,hwE⟩;have hwE':=hwE.symm;subst hwE';clear hwE))
   go_ret
   exact⟨rfl,rfl⟩
theorem sgn_at (l:List UInt8) (k:Nat) (h:k < l.length) :
  (l[k].toNat < 128∧Utf8.decode (S l) k=(l[k].toNat,1))∨(128≤l[k].toNat∧128≤(Utf8.decode (S l) k).1∧1≤(Utf8.decode (S l) k).2∧k+(Utf8.decode (S l) k).2≤l.length∧∀i (hi:k+i < l.length),i < (Utf8.decode (S l) k).2→128≤l[k+i].toNat):=by
 have hz:k < (S l).size:=by rw[S_size];exact h
 have hg:∀i (hi:i < l.length),(S l).get! i=l[i]:=fun i hi=>by
  have h1:=get_at (S l) i (by rw[S_size];exact hi)
  rw[Nat.add_zero] at h1
  rw[h1]
  exact S_get l i _
 by_cases ha:l[k].toNat < 128
 ·left
  have e:(S l)[k]'hz=l[k]:=S_get l k hz
  exact⟨ha,(decode_ascii (S l) k hz (by rw[e];exact ha)).trans (congrArg (fun b:UInt8=>(b.toNat,1)) e)⟩
 ·right
  have e:(S l)[k]'hz=l[k]:=S_get l k hz
  have h1:=decode_high (S l) k hz (by rw[e];omega)
  have h2:=dec_bytes (S l) k hz (by rw[hg k h];omega)
  rw[S_size] at h2
  exact⟨by omega,h1.1,h1.2,h2.1,fun i hi hlt=>by have:=h2.2 i hlt;rw[hg (k+i) hi] at this;exact this⟩
theorem woC_hi {c:Nat} (h:128≤c):woC c=false:=by
 simp[woC,leC,diC]
 omega
theorem frontW_any (w:World) (l:List UInt8) (hl:l.length≤65536):Calls Tryz.prog 68 #[.string (S l),fnV 69] w fun e w'=>e=.returned (Zi (frB woC l:Nat))∧Grew w w':=by
 have HG:Hid (∀k,Grew w (w.iter (S l) k)):=fun k=>(Grew.refl w).alloc _
 obtain⟨n,hn⟩:=nm (l.length)
 have HN:=Zh hn
 have hsz:(S l).size=n:=by rw[S_size,hn]
 have HSz:=Zh hsz
 have hn9:n≤65536:=by omega
 clear hn hl
 go_enter Tryz.func68,Tryz.ntmps68
 go_wp2_with fail
 go_loopw[5,6] (fun _ _ wr=>∃(k:Nat),k≤n∧wr=w.iter (S l) k∧Hid (∀i (hi:i < l.length),i < k→woC l[i].toNat=true)) (fun _ _ wr=>n - wr.iterPos w.heap.size)
 case atStart=>exact⟨0,Nat.zero_le _,rfl,fun i hi h=>by omega⟩
 case round=>
  obtain⟨k,hk,rfl,HI⟩:=hrel
  by_cases hlt:k < n
  ·have hkl:k < l.length:=by rw[← HN.out];exact hlt
   have hnx:=fun ty=>run_next_any (P:=Tryz.prog) w (S l) k ty (by rw[HSz.out];exact hlt)
   have hd:=decode_le (S l) k
   have HA:=Zh (sgn_at l k hkl)
   obtain⟨c,wd,hdc⟩:∃c wd,Utf8.decode (S l) k=(c,wd):=⟨_,_,rfl⟩
   rw[hdc] at hnx hd HA
   simp only at hnx hd HA
   have HC:=Zh (inWord_any (w.iter (S l) (k+wd)) c hd)
   have HB:Hid (woC c=woC l[k].toNat∧1≤wd∧k+wd≤n∧∀i (hi:i < l.length),k≤i→i < k+wd→woC l[i].toNat=woC c):=by
    rcases HA.out with ⟨h1,h2⟩ | ⟨h1,h2,h3,h4,h5⟩
    ·simp only[Prod.mk.injEq] at h2
     obtain⟨rfl,rfl⟩:=h2
     exact⟨rfl,Nat.le_refl _,by omega,fun i hi h6 h7=>by obtain rfl:i=k:=(by omega);rfl⟩
    ·refine⟨by rw[woC_hi h1,woC_hi h2],h3,by rw[HN.out];exact h4,fun i hi h6 h7=>?_⟩
     have h8:=h5 (i - k) (by omega) (by omega)
     have e:k+(i - k)=i:=by omega
     simp only[e] at h8
     rw[woC_hi h8,woC_hi h2]
   clear hdc HA
   generalize hb:woC c=b at *
   cases b with
   | true=>
    have HI2:Hid (∀i (hi:i < l.length),i < k+wd→woC l[i].toNat=true):=fun i hi h6=>by
     by_cases h7:i < k
     ·exact HI.out i hi h7
     ·exact HB.out.2.2.2 i hi (by omega) h6
    have hwd:=HB.out.2.2.1
    have hwd1:=HB.out.2.1
    clear HB hb HI
    go_wp2_with (first | (go_at_call 69;refine HC.out.mono ?_;rintro e wE ⟨rfl,hwE⟩;have hwE':=hwE.symm;subst hwE';clear hwE))
    go_roundw
    case rel=>exact⟨k+wd,by omega,rfl,HI2⟩
    case measure=>simp only[World.iterPos_iter];omega
   | false=>
    have HF:Hid (frB woC l=k):=frB_of woC l k (by rw[← HN.out];exact hk) HI.out (fun h=>HB.out.1.symm)
    have HG2:=Zh (HG.out (k+wd))
    clear HB hb HI
    go_wp2_with (first | (go_at_call 69;refine HC.out.mono ?_;rintro e wE ⟨rfl,hwE⟩;have hwE':=hwE.symm;subst hwE';clear hwE))
    go_ret
    exact⟨by rw[HF.out];rfl,HG2.out⟩
  ·have hke:k=n:=by omega
   subst hke
   have hnx:=fun ty=>run_next_end (P:=Tryz.prog) w (S l) k ty (by rw[HSz.out];omega)
   have HF:Hid (frB woC l=k):=frB_of woC l k (by rw[← HN.out];exact Nat.le_refl _) HI.out (fun h=>absurd h (by rw[← HN.out];omega))
   have HG2:=Zh (HG.out k)
   clear HI
   go_wp2
   go_ret
   exact⟨by rw[HF.out];first | rfl | simp[hsz],HG2.out⟩
theorem blC_hi {c:Nat} (h:128≤c):blC c=false:=by
 simp[blC]
 omega
theorem frontB_any (w:World) (l:List UInt8) (hl:l.length≤65536):Calls Tryz.prog 68 #[.string (S l),fnV 99] w fun e w'=>e=.returned (Zi (frB blC l:Nat))∧Grew w w':=by
 have HG:Hid (∀k,Grew w (w.iter (S l) k)):=fun k=>(Grew.refl w).alloc _
 obtain⟨n,hn⟩:=nm (l.length)
 have HN:=Zh hn
 have hsz:(S l).size=n:=by rw[S_size,hn]
 have HSz:=Zh hsz
 have hn9:n≤65536:=by omega
 clear hn hl
 go_enter Tryz.func68,Tryz.ntmps68
 go_wp2_with fail
 go_loopw[5,6] (fun _ _ wr=>∃(k:Nat),k≤n∧wr=w.iter (S l) k∧Hid (∀i (hi:i < l.length),i < k→blC l[i].toNat=true)) (fun _ _ wr=>n - wr.iterPos w.heap.size)
 case atStart=>exact⟨0,Nat.zero_le _,rfl,fun i hi h=>by omega⟩
 case round=>
  obtain⟨k,hk,rfl,HI⟩:=hrel
  by_cases hlt:k < n
  ·have hkl:k < l.length:=by rw[← HN.out];exact hlt
   have hnx:=fun ty=>run_next_any (P:=Tryz.prog) w (S l) k ty (by rw[HSz.out];exact hlt)
   have hd:=decode_le (S l) k
   have HA:=Zh (sgn_at l k hkl)
   obtain⟨c,wd,hdc⟩:∃c wd,Utf8.decode (S l) k=(c,wd):=⟨_,_,rfl⟩
   rw[hdc] at hnx hd HA
   simp only at hnx hd HA
   have HC:=Zh (isBlank_any (w.iter (S l) (k+wd)) c hd)
   have HB:Hid (blC c=blC l[k].toNat∧1≤wd∧k+wd≤n∧∀i (hi:i < l.length),k≤i→i < k+wd→blC l[i].toNat=blC c):=by
    rcases HA.out with ⟨h1,h2⟩ | ⟨h1,h2,h3,h4,h5⟩
    ·simp only[Prod.mk.injEq] at h2
     obtain⟨rfl,rfl⟩:=h2
     exact⟨rfl,Nat.le_refl _,by omega,fun i hi h6 h7=>by obtain rfl:i=k:=(by omega);rfl⟩
    ·refine⟨by rw[blC_hi h1,blC_hi h2],h3,by rw[HN.out];exact h4,fun i hi h6 h7=>?_⟩
     have h8:=h5 (i - k) (by omega) (by omega)
     have e:k+(i - k)=i:=by omega
     simp only[e] at h8
     rw[blC_hi h8,blC_hi h2]
   clear hdc HA
   generalize hb:blC c=b at *
   cases b with
   | true=>
    have HI2:Hid (∀i (hi:i < l.length),i < k+wd→blC l[i].toNat=true):=fun i hi h6=>by
     by_cases h7:i < k
     ·exact HI.out i hi h7
     ·exact HB.out.2.2.2 i hi (by omega) h6
    have hwd:=HB.out.2.2.1
    have hwd1:=HB.out.2.1
    clear HB hb HI
    go_wp2_with (first | (go_at_call 99;refine HC.out.mono ?_;rintro e wE ⟨rfl,hwE⟩;have hwE':=hwE.symm;subst hwE';clear hwE))
    go_roundw
    case rel=>exact⟨k+wd,by omega,rfl,HI2⟩
    case measure=>simp only[World.iterPos_iter];omega
   | false=>
    have HF:Hid (frB blC l=k):=frB_of blC l k (by rw[← HN.out];exact hk) HI.out (fun h=>HB.out.1.symm)
    have HG2:=Zh (HG.out (k+wd))
    clear HB hb HI
    go_wp2_with (first | (go_at_call 99;refine HC.out.mono ?_;rintro e wE ⟨rfl,hwE⟩;have hwE':=hwE.symm;subst hwE';clear hwE))
    go_ret
    exact⟨by rw[HF.out];rfl,HG2.out⟩
  ·have hke:k=n:=by omega
   subst hke
   have hnx:=fun ty=>run_next_end (P:=Tryz.prog) w (S l) k ty (by rw[HSz.out];omega)
   have HF:Hid (frB blC l=k):=frB_of blC l k (by rw[← HN.out];exact Nat.le_refl _) HI.out (fun h=>absurd h (by rw[← HN.out];omega))
   have HG2:=Zh (HG.out k)
   clear HI
   go_wp2
   go_ret
   exact⟨by rw[HF.out];first | rfl | simp[hsz],HG2.out⟩
theorem nlC_hi {c:Nat} (h:128≤c):nlC c=true:=by
 simp[nlC]
 omega
theorem frontN_any (w:World) (l:List UInt8) (hl:l.length≤65536):Calls Tryz.prog 68 #[.string (S l),fnV 97] w fun e w'=>e=.returned (Zi (frB nlC l:Nat))∧Grew w w':=by
 have HG:Hid (∀k,Grew w (w.iter (S l) k)):=fun k=>(Grew.refl w).alloc _
 obtain⟨n,hn⟩:=nm (l.length)
 have HN:=Zh hn
 have hsz:(S l).size=n:=by rw[S_size,hn]
 have HSz:=Zh hsz
 have hn9:n≤65536:=by omega
 clear hn hl
 go_enter Tryz.func68,Tryz.ntmps68
 go_wp2_with fail
 go_loopw[5,6] (fun _ _ wr=>∃(k:Nat),k≤n∧wr=w.iter (S l) k∧Hid (∀i (hi:i < l.length),i < k→nlC l[i].toNat=true)) (fun _ _ wr=>n - wr.iterPos w.heap.size)
 case atStart=>exact⟨0,Nat.zero_le _,rfl,fun i hi h=>by omega⟩
 case round=>
  obtain⟨k,hk,rfl,HI⟩:=hrel
  by_cases hlt:k < n
  ·have hkl:k < l.length:=by rw[← HN.out];exact hlt
   have hnx:=fun ty=>run_next_any (P:=Tryz.prog) w (S l) k ty (by rw[HSz.out];exact hlt)
   have hd:=decode_le (S l) k
   have HA:=Zh (sgn_at l k hkl)
   obtain⟨c,wd,hdc⟩:∃c wd,Utf8.decode (S l) k=(c,wd):=⟨_,_,rfl⟩
   rw[hdc] at hnx hd HA
   simp only at hnx hd HA
   have HC:=Zh (notFeed_any (w.iter (S l) (k+wd)) c hd)
   have HB:Hid (nlC c=nlC l[k].toNat∧1≤wd∧k+wd≤n∧∀i (hi:i < l.length),k≤i→i < k+wd→nlC l[i].toNat=nlC c):=by
    rcases HA.out with ⟨h1,h2⟩ | ⟨h1,h2,h3,h4,h5⟩
    ·simp only[Prod.mk.injEq] at h2
     obtain⟨rfl,rfl⟩:=h2
     exact⟨rfl,Nat.le_refl _,by omega,fun i hi h6 h7=>by obtain rfl:i=k:=(by omega);rfl⟩
    ·refine⟨by rw[nlC_hi h1,nlC_hi h2],h3,by rw[HN.out];exact h4,fun i hi h6 h7=>?_⟩
     have h8:=h5 (i - k) (by omega) (by omega)
     have e:k+(i - k)=i:=by omega
     simp only[e] at h8
     rw[nlC_hi h8,nlC_hi h2]
   clear hdc HA
   generalize hb:nlC c=b at *
   cases b with
   | true=>
    have HI2:Hid (∀i (hi:i < l.length),i < k+wd→nlC l[i].toNat=true):=fun i hi h6=>by
     by_cases h7:i < k
     ·exact HI.out i hi h7
     ·exact HB.out.2.2.2 i hi (by omega) h6
    have hwd:=HB.out.2.2.1
    have hwd1:=HB.out.2.1
    clear HB hb HI
    go_wp2_with (first | (go_at_call 97;refine HC.out.mono ?_;rintro e wE ⟨rfl,hwE⟩;have hwE':=hwE.symm;subst hwE';clear hwE))
    go_roundw
    case rel=>exact⟨k+wd,by omega,rfl,HI2⟩
    case measure=>simp only[World.iterPos_iter];omega
   | false=>
    have HF:Hid (frB nlC l=k):=frB_of nlC l k (by rw[← HN.out];exact hk) HI.out (fun h=>HB.out.1.symm)
    have HG2:=Zh (HG.out (k+wd))
    clear HB hb HI
    go_wp2_with (first | (go_at_call 97;refine HC.out.mono ?_;rintro e wE ⟨rfl,hwE⟩;have hwE':=hwE.symm;subst hwE';clear hwE))
    go_ret
    exact⟨by rw[HF.out];rfl,HG2.out⟩
  ·have hke:k=n:=by omega
   subst hke
   have hnx:=fun ty=>run_next_end (P:=Tryz.prog) w (S l) k ty (by rw[HSz.out];omega)
   have HF:Hid (frB nlC l=k):=frB_of nlC l k (by rw[← HN.out];exact Nat.le_refl _) HI.out (fun h=>absurd h (by rw[← HN.out];omega))
   have HG2:=Zh (HG.out k)
   clear HI
   go_wp2
   go_ret
   exact⟨by rw[HF.out];first | rfl | simp[hsz],HG2.out⟩
end Go.Proofs.YtlfooogmoigpfaaGreatDoor
namespace Go.Proofs.YtlfooogmoigpfaaGreatDoor
open Go.Shelf
def lays99_ren:Go.Shelf.Ren:=⟨fun | 99=>96 | 206=>119 | n=>n,fun | 9=>9 | 4=>4 | 3=>3 | n=>n,fun | n=>n⟩
theorem lays99:Go.Proofs.Lays.n99 Tryz.prog lays99_ren:={
 mixed:=by kernel_rfl
 f99:=Tryz.func96.trans (congrArg some (by kernel_rfl))
 f206:=Tryz.func119.trans (congrArg some (by kernel_rfl))
 t3:=Tryz.underlying3
 a3:=Tryz.isAgg3
 z3:=Tryz.sizeOf3
 v3:=Tryz.zeroValue3
 t4:=Tryz.underlying4
 a4:=Tryz.isAgg4
 z4:=Tryz.sizeOf4
 v4:=Tryz.zeroValue4
 t9:=Tryz.underlying9
 a9:=Tryz.isAgg9
 z9:=Tryz.sizeOf9
 v9:=Tryz.zeroValue9 }
def lays103_ren:Go.Shelf.Ren:=⟨fun | 103=>98 | 210=>120 | 206=>119 | n=>n,fun | 9=>9 | 4=>4 | 24=>159 | 3=>3 | n=>n,fun | n=>n⟩
theorem lays103:Go.Proofs.Lays.n103 Tryz.prog lays103_ren:={
 mixed:=by kernel_rfl
 f103:=Tryz.func98.trans (congrArg some (by kernel_rfl))
 f206:=Tryz.func119.trans (congrArg some (by kernel_rfl))
 f210:=Tryz.func120.trans (congrArg some (by kernel_rfl))
 t3:=Tryz.underlying3
 a3:=Tryz.isAgg3
 z3:=Tryz.sizeOf3
 v3:=Tryz.zeroValue3
 t4:=Tryz.underlying4
 a4:=Tryz.isAgg4
 z4:=Tryz.sizeOf4
 v4:=Tryz.zeroValue4
 t9:=Tryz.underlying9
 a9:=Tryz.isAgg9
 z9:=Tryz.sizeOf9
 v9:=Tryz.zeroValue9
 t24:=Tryz.underlying159
 a24:=Tryz.isAgg159
 z24:=Tryz.sizeOf159
 v24:=Tryz.zeroValue159 }
def lays138_ren:Go.Shelf.Ren:=⟨fun | 138=>42 | 195=>73 | 218=>74 | 143=>75 | 219=>104 | 217=>124 | 225=>125 | 224=>126 | 267=>127 | 266=>140 | 314=>141 | n=>n,fun | 9=>9 | 3=>3 | 4=>4 | 5=>5 | 0=>0 | 46=>174 | 146=>164 | 51=>163 | n=>n,fun | 1=>2 | n=>n⟩
theorem lays138:Go.Proofs.Lays.n138 Tryz.prog lays138_ren:={
 mixed:=by kernel_rfl
 f138:=Tryz.func42.trans (congrArg some (by kernel_rfl))
 f143:=Tryz.func75.trans (congrArg some (by kernel_rfl))
 f195:=Tryz.func73.trans (congrArg some (by kernel_rfl))
 f217:=Tryz.func124.trans (congrArg some (by kernel_rfl))
 f218:=Tryz.func74.trans (congrArg some (by kernel_rfl))
 f219:=Tryz.func104.trans (congrArg some (by kernel_rfl))
 f224:=Tryz.func126.trans (congrArg some (by kernel_rfl))
 f225:=Tryz.func125.trans (congrArg some (by kernel_rfl))
 f266:=Tryz.func140.trans (congrArg some (by kernel_rfl))
 f267:=Tryz.func127.trans (congrArg some (by kernel_rfl))
 f314:=Tryz.func141.trans (congrArg some (by kernel_rfl))
 t0:=Tryz.underlying0
 a0:=Tryz.isAgg0
 z0:=Tryz.sizeOf0
 v0:=Tryz.zeroValue0
 t3:=Tryz.underlying3
 a3:=Tryz.isAgg3
 z3:=Tryz.sizeOf3
 v3:=Tryz.zeroValue3
 t4:=Tryz.underlying4
 a4:=Tryz.isAgg4
 z4:=Tryz.sizeOf4
 v4:=Tryz.zeroValue4
 t5:=Tryz.underlying5
 a5:=Tryz.isAgg5
 z5:=Tryz.sizeOf5
 v5:=Tryz.zeroValue5
 t9:=Tryz.underlying9
 a9:=Tryz.isAgg9
 z9:=Tryz.sizeOf9
 v9:=Tryz.zeroValue9
 t46:=Tryz.underlying174
 a46:=Tryz.isAgg174
 z46:=Tryz.sizeOf174
 v46:=Tryz.zeroValue174
 t51:=Tryz.underlying163
 a51:=Tryz.isAgg163
 z51:=Tryz.sizeOf163
 v51:=Tryz.zeroValue163
 t146:=Tryz.underlying164
 a146:=Tryz.isAgg164
 z146:=Tryz.sizeOf164
 v146:=Tryz.zeroValue164
 g1:=by kernel_rfl }
def lays143_ren:Go.Shelf.Ren:=⟨fun | 143=>75 | 219=>104 | 217=>124 | 225=>125 | 224=>126 | 267=>127 | 266=>140 | 314=>141 | n=>n,fun | 9=>9 | 3=>3 | 4=>4 | 5=>5 | 46=>174 | 146=>164 | 51=>163 | n=>n,fun | 1=>2 | n=>n⟩
theorem lays143:Go.Proofs.Lays.n143 Tryz.prog lays143_ren:={
 mixed:=by kernel_rfl
 f143:=Tryz.func75.trans (congrArg some (by kernel_rfl))
 f217:=Tryz.func124.trans (congrArg some (by kernel_rfl))
 f219:=Tryz.func104.trans (congrArg some (by kernel_rfl))
 f224:=Tryz.func126.trans (congrArg some (by kernel_rfl))
 f225:=Tryz.func125.trans (congrArg some (by kernel_rfl))
 f266:=Tryz.func140.trans (congrArg some (by kernel_rfl))
 f267:=Tryz.func127.trans (congrArg some (by kernel_rfl))
 f314:=Tryz.func141.trans (congrArg some (by kernel_rfl))
 t3:=Tryz.underlying3
 a3:=Tryz.isAgg3
 z3:=Tryz.sizeOf3
 v3:=Tryz.zeroValue3
 t4:=Tryz.underlying4
 a4:=Tryz.isAgg4
 z4:=Tryz.sizeOf4
 v4:=Tryz.zeroValue4
 t5:=Tryz.underlying5
 a5:=Tryz.isAgg5
 z5:=Tryz.sizeOf5
 v5:=Tryz.zeroValue5
 t9:=Tryz.underlying9
 a9:=Tryz.isAgg9
 z9:=Tryz.sizeOf9
 v9:=Tryz.zeroValue9
 t46:=Tryz.underlying174
 a46:=Tryz.isAgg174
 z46:=Tryz.sizeOf174
 v46:=Tryz.zeroValue174
 t51:=Tryz.underlying163
 a51:=Tryz.isAgg163
 z51:=Tryz.sizeOf163
 v51:=Tryz.zeroValue163
 t146:=Tryz.underlying164
 a146:=Tryz.isAgg164
 z146:=Tryz.sizeOf164
 v146:=Tryz.zeroValue164
 g1:=by kernel_rfl }
def lays148_ren:Go.Shelf.Ren:=⟨fun | 148=>43 | 222=>76 | 223=>77 | 269=>105 | n=>n,fun | 9=>9 | 3=>3 | 4=>4 | 5=>5 | 146=>164 | 51=>163 | 46=>174 | n=>n,fun | n=>n⟩
theorem lays148:Go.Proofs.Lays.n148 Tryz.prog lays148_ren:={
 mixed:=by kernel_rfl
 f148:=Tryz.func43.trans (congrArg some (by kernel_rfl))
 f222:=Tryz.func76.trans (congrArg some (by kernel_rfl))
 f223:=Tryz.func77.trans (congrArg some (by kernel_rfl))
 f269:=Tryz.func105.trans (congrArg some (by kernel_rfl))
 t3:=Tryz.underlying3
 a3:=Tryz.isAgg3
 z3:=Tryz.sizeOf3
 v3:=Tryz.zeroValue3
 t4:=Tryz.underlying4
 a4:=Tryz.isAgg4
 z4:=Tryz.sizeOf4
 v4:=Tryz.zeroValue4
 t5:=Tryz.underlying5
 a5:=Tryz.isAgg5
 z5:=Tryz.sizeOf5
 v5:=Tryz.zeroValue5
 t9:=Tryz.underlying9
 a9:=Tryz.isAgg9
 z9:=Tryz.sizeOf9
 v9:=Tryz.zeroValue9
 t46:=Tryz.underlying174
 a46:=Tryz.isAgg174
 z46:=Tryz.sizeOf174
 v46:=Tryz.zeroValue174
 t51:=Tryz.underlying163
 a51:=Tryz.isAgg163
 z51:=Tryz.sizeOf163
 v51:=Tryz.zeroValue163
 t146:=Tryz.underlying164
 a146:=Tryz.isAgg164
 z146:=Tryz.sizeOf164
 v146:=Tryz.zeroValue164 }
def lays152_ren:Go.Shelf.Ren:=⟨fun | 152=>123 | 137=>138 | 119=>139 | 224=>126 | 225=>125 | 217=>124 | 266=>140 | n=>n,fun | 9=>9 | 21=>21 | 3=>3 | 4=>4 | 5=>5 | 0=>0 | 46=>174 | n=>n,fun | n=>n⟩
theorem lays152:Go.Proofs.Lays.n152 Tryz.prog lays152_ren:={
 mixed:=by kernel_rfl
 f119:=Tryz.func139.trans (congrArg some (by kernel_rfl))
 f137:=Tryz.func138.trans (congrArg some (by kernel_rfl))
 f152:=Tryz.func123.trans (congrArg some (by kernel_rfl))
 f217:=Tryz.func124.trans (congrArg some (by kernel_rfl))
 f224:=Tryz.func126.trans (congrArg some (by kernel_rfl))
 f225:=Tryz.func125.trans (congrArg some (by kernel_rfl))
 f266:=Tryz.func140.trans (congrArg some (by kernel_rfl))
 t0:=Tryz.underlying0
 a0:=Tryz.isAgg0
 z0:=Tryz.sizeOf0
 v0:=Tryz.zeroValue0
 t3:=Tryz.underlying3
 a3:=Tryz.isAgg3
 z3:=Tryz.sizeOf3
 v3:=Tryz.zeroValue3
 t4:=Tryz.underlying4
 a4:=Tryz.isAgg4
 z4:=Tryz.sizeOf4
 v4:=Tryz.zeroValue4
 t5:=Tryz.underlying5
 a5:=Tryz.isAgg5
 z5:=Tryz.sizeOf5
 v5:=Tryz.zeroValue5
 t9:=Tryz.underlying9
 a9:=Tryz.isAgg9
 z9:=Tryz.sizeOf9
 v9:=Tryz.zeroValue9
 t21:=Tryz.underlying21
 a21:=Tryz.isAgg21
 z21:=Tryz.sizeOf21
 v21:=Tryz.zeroValue21
 t46:=Tryz.underlying174
 a46:=Tryz.isAgg174
 z46:=Tryz.sizeOf174
 v46:=Tryz.zeroValue174 }
def lays197_ren:Go.Shelf.Ren:=⟨fun | 197=>65 | 260=>100 | n=>n,fun | 9=>9 | 21=>21 | 3=>3 | 4=>4 | 5=>5 | 105=>128 | 119=>173 | 0=>0 | 46=>174 | 139=>177 | 138=>176 | n=>n,fun | 3=>3 | 4=>4 | n=>n⟩
theorem lays197:Go.Proofs.Lays.n197 Tryz.prog lays197_ren:={
 mixed:=by kernel_rfl
 f197:=Tryz.func65.trans (congrArg some (by kernel_rfl))
 f260:=Tryz.func100.trans (congrArg some (by kernel_rfl))
 t0:=Tryz.underlying0
 a0:=Tryz.isAgg0
 z0:=Tryz.sizeOf0
 v0:=Tryz.zeroValue0
 t3:=Tryz.underlying3
 a3:=Tryz.isAgg3
 z3:=Tryz.sizeOf3
 v3:=Tryz.zeroValue3
 t4:=Tryz.underlying4
 a4:=Tryz.isAgg4
 z4:=Tryz.sizeOf4
 v4:=Tryz.zeroValue4
 t5:=Tryz.underlying5
 a5:=Tryz.isAgg5
 z5:=Tryz.sizeOf5
 v5:=Tryz.zeroValue5
 t9:=Tryz.underlying9
 a9:=Tryz.isAgg9
 z9:=Tryz.sizeOf9
 v9:=Tryz.zeroValue9
 t21:=Tryz.underlying21
 a21:=Tryz.isAgg21
 z21:=Tryz.sizeOf21
 v21:=Tryz.zeroValue21
 t46:=Tryz.underlying174
 a46:=Tryz.isAgg174
 z46:=Tryz.sizeOf174
 v46:=Tryz.zeroValue174
 t105:=Tryz.underlying128
 a105:=Tryz.isAgg128
 z105:=Tryz.sizeOf128
 v105:=Tryz.zeroValue128
 t119:=Tryz.underlying173
 a119:=Tryz.isAgg173
 z119:=Tryz.sizeOf173
 t138:=Tryz.underlying176
 a138:=Tryz.isAgg176
 z138:=Tryz.sizeOf176
 v138:=Tryz.zeroValue176
 t139:=Tryz.underlying177
 a139:=Tryz.isAgg177
 z139:=Tryz.sizeOf177
 v139:=Tryz.zeroValue177
 g3:=by kernel_rfl
 g4:=by kernel_rfl }
def laysM316_ren:Go.Shelf.Ren:=⟨fun | 316=>63 | n=>n,fun | 9=>9 | 3=>3 | 4=>4 | 37=>156 | 0=>0 | 127=>157 | 5=>5 | n=>n,fun | n=>n⟩
theorem laysM316:Go.Proofs.LaysM.n316 Tryz.prog laysM316_ren:={
 mixed:=by kernel_rfl
 f316:=Tryz.func63.trans (congrArg some (by kernel_rfl))
 t0:=Tryz.underlying0
 a0:=Tryz.isAgg0
 z0:=Tryz.sizeOf0
 v0:=Tryz.zeroValue0
 t3:=Tryz.underlying3
 a3:=Tryz.isAgg3
 z3:=Tryz.sizeOf3
 v3:=Tryz.zeroValue3
 t4:=Tryz.underlying4
 a4:=Tryz.isAgg4
 z4:=Tryz.sizeOf4
 v4:=Tryz.zeroValue4
 t9:=Tryz.underlying9
 a9:=Tryz.isAgg9
 z9:=Tryz.sizeOf9
 v9:=Tryz.zeroValue9
 t37:=Tryz.underlying156
 a37:=Tryz.isAgg156
 z37:=Tryz.sizeOf156
 v37:=Tryz.zeroValue156
 t127:=Tryz.underlying157
 a127:=Tryz.isAgg157
 z127:=Tryz.sizeOf157
 v127:=Tryz.zeroValue157
 t5:=Tryz.underlying5
 a5:=Tryz.isAgg5
 z5:=Tryz.sizeOf5
 v5:=Tryz.zeroValue5
 i0:=by kernel_rfl
 i3:=by kernel_rfl
 i4:=by kernel_rfl
 i5:=by kernel_rfl
 i9:=by kernel_rfl
 i37:=by kernel_rfl
 i127:=by kernel_rfl }
end Go.Proofs.YtlfooogmoigpfaaGreatDoor
namespace Go.Proofs.YtlfooogmoigpfaaGreatDoor
open Go.RowKit Go.Sort Go.Shelf
def MLen (w:World):Prop:=∃m,w.cell? ⟨2,0,none⟩=some (Zi m)
theorem MLen.kept {w w':World} (h:MLen w) (hb:Below w.heap.size w w'):MLen w':=by
 obtain⟨m,h⟩:=h
 exact⟨m,(hb.cell (cell_lt h)).trans h⟩
theorem hasPre_any (w:World) (l:List UInt8) (p:List UInt8):Calls Tryz.prog 96 #[.string (S l),.string (S p)] w fun e w'=>e=.returned (.bool (p.isPrefixOf l))∧w'=w:=by
 have h1:Calls Tryz.prog 96 #[.string (S l),.string (S p)] w _:=Any.strings_HasPrefix lays99 (S l) (S p) w
 rw[S_list,S_list] at h1
 exact h1
theorem cutPre_any (w:World) (l:List UInt8) (p:List UInt8):Calls Tryz.prog 98 #[.string (S l),.string (S p)] w fun e w'=>e=.returned (.tuple #[.string (S (if p.isPrefixOf l then l.drop p.length else l)),.bool (p.isPrefixOf l)])∧w'=w:=by
 have h1:Calls Tryz.prog 98 #[.string (S l),.string (S p)] w _:=Any.strings_CutPrefix lays103 (S l) (S p) w
 rw[S_list,S_list] at h1
 exact h1
theorem index_any (w:World) (l:List UInt8) (p:List UInt8) (hl:l.length≤65536) (hm:MLen w):Calls Tryz.prog 75 #[.string (S l),.string (S p)] w fun e w'=>e=.returned (Zi (Lib.index l p))∧w'=w:=by
 obtain⟨m,hm⟩:=hm
 have h1:Calls Tryz.prog 75 #[.string (S l),.string (S p)] w _:=Any.strings_Index lays143 (S l) (S p) m w (by rw[S_size];omega) hm
 rw[S_list,S_list] at h1
 exact h1
theorem index_bound:∀(l p:List UInt8),Lib.index l p≤(l.length:Int)
 | [],p=>by unfold Lib.index;split <;> simp
 | b :: l,p=>by
  have ih:=index_bound l p
  unfold Lib.index
  split
  ·simp;omega
  ·split
   ·simp;omega
   ·simp;omega
theorem gap_any (w:World) (l:List UInt8) (hl:l.length≤65536) (hm:MLen w):Calls Tryz.prog 64 #[.string (S l)] w fun e w'=>e=.returned (Zi (gapL l:Nat))∧Grew w w':=by
 have HP:=Zh (hasPre_any w l [47,47])
 have HC:=Zh (cutPre_any w l [47,42])
 have HX:=Zh (index_any w (l.drop 2) [42,47] (by simp;omega) hm)
 have HN:=Zh (frontN_any w l hl)
 have HB:=Zh (frontB_any w l hl)
 have hx0:=Lib.index_ge (l.drop 2) [42,47]
 have hx1:Lib.index (l.drop 2) [42,47]≤65536:=by
  have h1:=index_bound (l.drop 2) [42,47]
  have h2:(l.drop 2).length≤l.length:=by simp
  omega
 have HG:Hid (gapL l=if [47,47].isPrefixOf l then frB nlC l else if [47,42].isPrefixOf l then (if Lib.index (l.drop 2) [42,47] < 0 then 0 else (Lib.index (l.drop 2) [42,47]).toNat+4) else frB blC l):=rfl
 have HR:Hid (Grew w w):=Grew.refl w
 generalize hgl:gapL l=gl at *
 generalize frB nlC l=fn at *
 generalize frB blC l=fb at *
 generalize Lib.index (l.drop 2) [42,47]=ix at *
 generalize [47,47].isPrefixOf l=b1 at *
 generalize [47,42].isPrefixOf l=b2 at *
 clear hgl hm
 cases b1 with
 | true=>
  have e:gl=fn:=by have h:=HG.out;simpa using h
  subst e
  clear HG HC HX HB
  go_enter Tryz.func64,Tryz.ntmps64
  go_wp2_with (first | (go_at_call 96;refine HP.out.mono ?_;rintro e wE ⟨rfl,hwE⟩;have hwE':=hwE.symm;subst hwE';clear hwE) | fail)
  refine HN.out.mono ?_
  rintro e w2 ⟨rfl,hg⟩
  have HG2:=Zh hg
  clear hg
  go_wp2
  go_ret
  exact⟨rfl,HG2.out⟩
 | false=>
  cases b2 with
  | true=>
   clear HN HB
   by_cases hx:ix < 0
   ·have e:gl=0:=by have h:=HG.out;simpa [hx] using h
    subst e
    clear HG
    go_enter Tryz.func64,Tryz.ntmps64
    go_wp2_with (first | (go_at_call 96;refine HP.out.mono ?_;rintro e wE ⟨rfl,hwE⟩;have hwE':=hwE.symm;subst hwE';clear hwE) | (go_at_call 98;refine HC.out.mono ?_;rintro e wE ⟨rfl,hwE⟩;have hwE':=hwE.symm;subst hwE';clear hwE) | (go_at_call 75;refine HX.out.mono ?_;rintro e wE ⟨rfl,hwE⟩;have hwE':=hwE.symm;subst hwE';clear hwE))
    go_ret
    exact⟨rfl,HR.out⟩
   ·have e:gl=ix.toNat+4:=by have h:=HG.out;simpa [hx] using h
    subst e
    clear HG
    have hw1:IntKind.i64.wrap (2+ix)=2+ix:=by rw[IntKind.wrap_i64];omega
    have hw2:IntKind.i64.wrap (2+ix+2)=2+ix+2:=by rw[IntKind.wrap_i64];omega
    go_enter Tryz.func64,Tryz.ntmps64
    go_wp2_with (first | (go_at_call 96;refine HP.out.mono ?_;rintro e wE ⟨rfl,hwE⟩;have hwE':=hwE.symm;subst hwE';clear hwE) | (go_at_call 98;refine HC.out.mono ?_;rintro e wE ⟨rfl,hwE⟩;have hwE':=hwE.symm;subst hwE';clear hwE) | (go_at_call 75;refine HX.out.mono ?_;rintro e wE ⟨rfl,hwE⟩;have hwE':=hwE.symm;subst hwE';clear hwE))
    go_ret
    exact⟨by rw[show ((ix.toNat+4:Nat):Int)=2+ix+2 by omega];rfl,HR.out⟩
  | false=>
   have e:gl=fb:=by have h:=HG.out;simpa using h
   subst e
   clear HG HX HN
   go_enter Tryz.func64,Tryz.ntmps64
   go_wp2_with (first | (go_at_call 96;refine HP.out.mono ?_;rintro e wE ⟨rfl,hwE⟩;have hwE':=hwE.symm;subst hwE';clear hwE) | (go_at_call 98;refine HC.out.mono ?_;rintro e wE ⟨rfl,hwE⟩;have hwE':=hwE.symm;subst hwE';clear hwE) | fail)
   refine HB.out.mono ?_
   rintro e w2 ⟨rfl,hg⟩
   have HG2:=Zh hg
   clear hg
   go_wp2
   go_ret
   exact⟨rfl,HG2.out⟩
theorem nlN_count (l:List UInt8):Lib.countByte l 10=nlN l:=by
 unfold Lib.countByte nlN List.count
 congr 1
 funext c
 by_cases h:c=10
 ·subst h;rfl
 ·have h1:c.toNat≠10:=fun e=>h (UInt8.toNat_inj.1 e)
  simp[h,h1]
theorem nlN_zero {l:List UInt8} (h:nlN l=0):∀c∈l,c.toNat≠10:=by
 unfold nlN at h
 rw[List.countP_eq_zero] at h
 intro c hc e
 exact h c hc (by simp[e])
theorem last_nl (l:List UInt8) (h:nlN l≠0):∃i:Nat,i < l.length∧Lib.lastIndexByte (S l) 10=(i:Int)∧∀p,(spL p l).2=l.length - i:=by
 rcases Lib.lastIndexByte_spec (S l) 10 with ⟨_,h2⟩ | ⟨i,h1,h2,h3,h4⟩
 ·exfalso
  apply h
  unfold nlN
  rw[List.countP_eq_zero]
  intro c hc
  obtain⟨j,hj,rfl⟩:=List.getElem_of_mem hc
  have h5:=h2 j (by rw[S_size];exact hj)
  have e:(S l).data[j]! = l[j]:=by simp[S,hj]
  rw[e] at h5
  simp;omega
 ·have hi:i < l.length:=by rw[S_size] at h1;exact h1
  have e:∀j (hj:j < l.length),(S l).data[j]! = l[j]:=fun j hj=>by simp[S,hj]
  refine⟨i,hi,h2,fun p=>?_⟩
  have hs:l=l.take i ++ l[i] :: l.drop (i+1):=by rw[← List.drop_eq_getElem_cons hi,List.take_append_drop]
  have h5:=spL_last (l.take i) (l.drop (i+1)) p l[i] (by rw[e i hi] at h3;omega) (fun d hd=>by
   obtain⟨j,hj,rfl⟩:=List.getElem_of_mem hd
   simp only[List.length_drop] at hj
   have h6:=h4 (i+1+j) (by omega) (by rw[S_size];omega)
   rw[e (i+1+j) (by omega)] at h6
   simp only[List.getElem_drop]
   omega)
  rw[← hs] at h5
  rw[h5,List.length_drop]
  omega
theorem spL_pos:∀(l:List UInt8) (p:Nat × Nat),(spL p l).2≤p.2+l.length∧(spL p l).1≤p.1+l.length:=by
 intro l
 induction l with
 | nil=>intro p;simp[spL]
 | cons c r ih=>
  intro p
  have e:spL p (c :: r)=spL (spS p c) r:=rfl
  rw[e]
  have h1:=ih (spS p c)
  have h2:(spS p c).2≤p.2+1∧(spS p c).1≤p.1+1:=by
   unfold spS
   split <;> simp
  simp only[List.length_cons]
  omega
abbrev spV (p:Nat × Nat):Value:=.agg #[Zi (p.1:Int),Zi (p.2:Int)]
theorem behind_any (w:World) (p:Nat × Nat) (l:List UInt8) (hl:l.length≤65536) (hp:p.1≤1000000∧p.2≤1000000):Calls Tryz.prog 15 #[spV p,.string (S l)] w fun e w'=>e=.returned (spV (spL p l))∧Below w.heap.size w w':=by
 obtain⟨pl,pc⟩:=p
 simp only at hp
 obtain⟨W1,hW1⟩:=nm ((w.alloc (.cells #[Zi (pl:Int),Zi (pc:Int)] 43)).alloc (.cells #[Zi 0,Zi 0] 43))
 obtain⟨B,hB⟩:=nm (w.heap.size)
 obtain⟨R,hR⟩:=nm (w.heap.size+1)
 have hb1:Below w.heap.size w W1:=by rw[hW1];exact ((Below.refl _ _).alloc (Nat.le_refl _) _).alloc (by simp only[World.size_alloc];omega) _
 have bB:W1.heap[B]? = some (.cells #[Zi (pl:Int),Zi (pc:Int)] 43 (0,0)):=by
  rw[hW1,hB]
  exact (((Below.refl _ _).alloc (Nat.le_refl _) _).block _ (by simp only[World.size_alloc];omega)).trans (heap_alloc_new _ _ rfl)
 have bR:W1.heap[R]? = some (.cells #[Zi 0,Zi 0] 43 (0,0)):=by rw[hW1,hR];exact heap_alloc_new _ _ (by simp only[World.size_alloc])
 have hBR:B≠R:=by omega
 have hRw:w.heap.size≤R:=by omega
 have HCt:Hid (∀W,Calls Tryz.prog 42 #[.string (S l),.string ⟨#[10]⟩] W fun e w'=>e=.returned (Zi (nlN l:Nat))∧w'=W):=fun W=>by
  have h1:Calls Tryz.prog 42 #[.string (S l),.string ⟨#[10]⟩] W _:=Any.strings_Count_one lays138 (S l) 10 W
  rw[S_list,nlN_count] at h1
  exact h1
 have hlen:(S l).size=l.length:=S_size l
 have HFn:Hid (∀(U:World) (x y:Int),Below W1.heap.size W1 U→Below w.heap.size w ((U.setCell ⟨R,0,none⟩ (Zi x)).setCell ⟨R,1,none⟩ (Zi y))∧((U.setCell ⟨R,0,none⟩ (Zi x)).setCell ⟨R,1,none⟩ (Zi y)).cell? ⟨R,0,none⟩=some (Zi x)∧((U.setCell ⟨R,0,none⟩ (Zi x)).setCell ⟨R,1,none⟩ (Zi y)).cell? ⟨R,1,none⟩=some (Zi y)∧((U.setCell ⟨R,0,none⟩ (Zi x)).setCell ⟨R,1,none⟩ (Zi y)).cell? ⟨B,0,none⟩=some (Zi (pl:Int))):=fun U x y hU=>by
  have k1:=(hU.block _ (blk_lt bR)).trans bR
  have kB:=(hU.block _ (blk_lt bB)).trans bB
  have k2:=heap_setCell_same U R 0 _ _ (Zi x) k1
  have k3:=heap_setCell_same _ R 1 _ _ (Zi y) k2
  have k4:((U.setCell ⟨R,0,none⟩ (Zi x)).setCell ⟨R,1,none⟩ (Zi y)).heap[B]? = U.heap[B]?:=(heap_setCell_other _ ⟨R,1,none⟩ B _ hBR).trans (heap_setCell_other _ ⟨R,0,none⟩ B _ hBR)
  rw[kB] at k4
  refine⟨?_,by simp[World.cell?,k3],by simp[World.cell?,k3],by simp[World.cell?,k4]⟩
  have h2:Below w.heap.size w U:=hb1.trans (hU.mono hb1.size)
  exact⟨by first | exact h2.os | simpa using h2.os,by first | exact h2.tape | simpa using h2.tape,by first | exact h2.output | simpa using h2.output,by simpa using h2.size,fun k hk=>(heap_setCell_other _ ⟨R,1,none⟩ k _ (by show k≠R;omega)).trans ((heap_setCell_other _ ⟨R,0,none⟩ k _ (by show k≠R;omega)).trans (h2.block k hk))⟩
 have HCl:Hid (∀U,Below W1.heap.size W1 U→U.cell? ⟨B,0,none⟩=some (Zi (pl:Int))∧U.cell? ⟨B,1,none⟩=some (Zi (pc:Int))∧U.cell? ⟨R,0,none⟩=some (Zi 0)∧U.cell? ⟨R,1,none⟩=some (Zi 0)∧U.frozen? ⟨R,0,none⟩=false∧U.frozen? ⟨R,1,none⟩=false):=fun U hU=>by
  have k1:=(hU.block _ (blk_lt bR)).trans bR
  have kB:=(hU.block _ (blk_lt bB)).trans bB
  exact⟨by simp[World.cell?,kB],by simp[World.cell?,kB],by simp[World.cell?,k1],by simp[World.cell?,k1],frozen_of_row U R 0 _ _ k1,frozen_of_row U R 1 _ _ k1⟩
 have hsp:=spL_pos l (pl,pc)
 simp only at hsp
 obtain⟨n,hn⟩:=nm (l.length)
 have HN:=Zh hn
 rw[← hn] at hlen hl hsp
 by_cases h0:nlN l=0
 ·have e:spL (pl,pc) l=(pl,pc+n):=by rw[hn];exact spL_none l (pl,pc) (nlN_zero h0)
  rw[e]
  rw[h0] at HCt
  have hw1:IntKind.i64.wrap ((pc:Int)+(n:Int))=(pc:Int)+(n:Int):=by rw[IntKind.wrap_i64];omega
  obtain⟨c0,c1,c2,c3,c4,c5⟩:=HCl.out W1 (Below.refl _ _)
  have HF:=Zh (HFn.out W1 (pl:Int) ((pc:Int)+(n:Int)) (Below.refl _ _))
  clear hn bB bR hb1 hsp e h0 HCl HFn
  go_enter Tryz.func15,Tryz.ntmps15
  go_wp2_with fail
  rw[← hW1,← hR,← hB]
  clear hW1 hB hR
  refine (HCt.out W1).mono ?_
  rintro e w2 ⟨rfl,hw2⟩
  subst hw2
  go_wp2_with fail
  obtain⟨hb,f0,f1,_⟩:=HF.out
  refine bodyPost_ret (v:=spV (pl,pc+n)) (by simp[results,Tryz.results15,go_sem,f0,f1]) rfl ?_
  exact⟨rfl,hb⟩
 ·obtain⟨i,hi,hix,hcol⟩:=last_nl l h0
  have e:spL (pl,pc) l=(pl+nlN l,n - i):=Prod.ext (spL_line l (pl,pc)) (by rw[hcol,hn])
  rw[e]
  obtain⟨m,hm⟩:=nm (nlN l)
  rw[← hm] at HCt h0 ⊢
  have hm9:m≤65536:=by rw[hm];unfold nlN;exact Nat.le_trans (List.countP_le_length) (by rw[← hn];exact hl)
  have hin:i < n:=by rw[hn];exact hi
  have HLi:Hid (∀W,Calls Tryz.prog 43 #[.string (S l),.string ⟨#[10]⟩] W fun e w'=>e=.returned (Zi (i:Int))∧w'=W):=fun W=>by
   have h1:Calls Tryz.prog 43 #[.string (S l),.string ⟨#[10]⟩] W _:=Any.strings_LastIndex_one lays148 (S l) ⟨#[10]⟩ rfl (by rw[hlen];omega) W
   have e2:Lib.lastIndexByte (S l) (((⟨#[10]⟩:ByteArray)[0]'(by decide)).toNat:Int)=(i:Int):=hix
   rw[e2] at h1
   exact h1
  have hm0:((m:Int) == 0)=false:=by simp;omega
  have hw1:IntKind.i64.wrap ((pl:Int)+(m:Int))=(pl:Int)+(m:Int):=by rw[IntKind.wrap_i64];omega
  have hw2:IntKind.i64.wrap ((n:Int) - (i:Int))=(n:Int) - (i:Int):=by rw[IntKind.wrap_i64];omega
  have HLd:Hid (Calls Tryz.prog 43 #[.string (S l),.string ⟨#[10]⟩] W1.drew fun e w'=>e=.returned (Zi (i:Int))∧Below W1.heap.size W1 w'):=(HLi.out W1.drew).mono fun e w' ⟨a1,a2⟩=>⟨a1,by rw[a2];exact (Grew.refl W1).drew.below⟩
  obtain⟨c0,c1,c2,c3,c4,c5⟩:=HCl.out W1 (Below.refl _ _)
  have HEe:Hid (∀(U:World),(pl+m,n - i)=(pl+m,n - i)∧((pl:Int)+(m:Int)=((pl+m:Nat):Int))∧((n:Int) - (i:Int)=((n - i:Nat):Int))):=fun _=>⟨rfl,by omega,by omega⟩
  have h0I:¬(m:Int)=0:=by omega
  clear hn bB bR hb1 hsp e h0 hm hix hcol HLi
  go_enter Tryz.func15,Tryz.ntmps15
  go_wp2_with fail
  rw[← hW1,← hR,← hB]
  clear hW1 hB hR
  refine (HCt.out W1).mono ?_
  rintro e w2 ⟨rfl,hw2⟩
  subst hw2
  go_upto_region 4 with fail
  go_region_held3 (fun w'=>w'.cell? ⟨B,0,none⟩=some (Zi (pl:Int))) (first | with_reducible exact HQS.out | with_reducible exact HQA.out | go_keep) (first
   | (go_at_call 43;with_reducible refine HLd.out.mono ?_;rintro e wA ⟨rfl,hbA⟩;have HQA:=Zh (HCl.out _ hbA).1;have HQS:=Zh (HFn.out wA ((pl:Int)+(m:Int)) ((n:Int) - (i:Int)) hbA).2.2.2;have HBA:=Zh hbA;obtain⟨_,_,y2,y3,y4,y5⟩:=HCl.out _ hbA;clear hbA))
  obtain⟨hb,f0,f1,_⟩:=HFn.out wA ((pl:Int)+(m:Int)) ((n:Int) - (i:Int)) HBA.out
  go_wp2_with fail
  refine bodyPost_ret (v:=spV (pl+m,n - i)) (by simp[results,Tryz.results15,go_sem,f0,f1];exact (HEe.out w).2.2) rfl ?_
  exact⟨rfl,hb⟩
theorem S_cut (l:List UInt8) (f t:Nat):(S l).extract f t=S ((l.take t).drop f):=by
 have h:((S l).extract f t).data.toList=(l.take t).drop f:=by
  show _=_
  rw[ByteArray.data_extract,Array.toList_extract,List.extract_eq_take_drop,List.drop_take]
  simp[S]
 rw[← h]
 exact (S_of _).symm
def SB (w:World) (sb:Nat) (l:List UInt8) (p:Nat × Nat):Prop:=w.heap[sb]? = some (.cells #[.string (S l),Zi (p.1:Int),Zi (p.2:Int)] 96 (0,0))
structure T1 (sb:Nat) (w w':World):Prop where
 os:w'.os=w.os
 tape:w'.tape=w.tape
 output:w'.output=w.output
 size:w.heap.size≤w'.heap.size
 block:∀k,k < w.heap.size→k≠sb→w'.heap[k]? = w.heap[k]?
theorem T1.bel {sb:Nat} {w w':World} (h:Below w.heap.size w w'):T1 sb w w':=⟨h.os,h.tape,h.output,h.size,fun k hk _=>h.block k hk⟩
theorem T1.trans {sb:Nat} {a b c:World} (h:T1 sb a b) (h2:T1 sb b c):T1 sb a c:=
 ⟨h2.os.trans h.os,h2.tape.trans h.tape,h2.output.trans h.output,Nat.le_trans h.size h2.size,fun k hk hn=>(h2.block k (Nat.lt_of_lt_of_le hk h.size) hn).trans (h.block k hk hn)⟩
theorem T1.set {sb o:Nat} {w:World} {v:Value} : T1 sb w (w.setCell ⟨sb,o,none⟩ v):=⟨by first | rfl | simp,by first | rfl | simp,by first | rfl | simp,by simp,fun k _ hn=>heap_setCell_other w ⟨sb,o,none⟩ k v hn⟩
theorem SB.cells {w:World} {sb:Nat} {l:List UInt8} {p:Nat × Nat} (h:SB w sb l p):w.cell? ⟨sb,0,none⟩=some (.string (S l))∧w.cell? ⟨sb,1,none⟩=some (Zi (p.1:Int))∧w.cell? ⟨sb,2,none⟩=some (Zi (p.2:Int))∧w.frozen? ⟨sb,0,none⟩=false∧w.frozen? ⟨sb,1,none⟩=false∧w.frozen? ⟨sb,2,none⟩=false:=by
 unfold SB at h
 exact⟨by simp[World.cell?,h],by simp[World.cell?,h],by simp[World.cell?,h],frozen_of_row w sb 0 _ _ h,frozen_of_row w sb 1 _ _ h,frozen_of_row w sb 2 _ _ h⟩
theorem SB.kept {w w':World} {sb:Nat} {l:List UInt8} {p:Nat × Nat} (h:SB w sb l p) (hb:Below w.heap.size w w'):SB w' sb l p:=(hb.block _ (blk_lt h)).trans h
theorem SB.at {w:World} {sb:Nat} {l:List UInt8} {p:Nat × Nat} (h:SB w sb l p) (q:Nat × Nat):SB ((w.setCell ⟨sb,1,none⟩ (Zi (q.1:Int))).setCell ⟨sb,2,none⟩ (Zi (q.2:Int))) sb l q:=
 heap_setCell_same _ sb 2 _ _ _ (heap_setCell_same w sb 1 _ _ _ h)
theorem SB.rest {w:World} {sb:Nat} {l:List UInt8} {p:Nat × Nat} (h:SB w sb l p) (l':List UInt8):SB (w.setCell ⟨sb,0,none⟩ (.string (S l'))) sb l' p:=heap_setCell_same w sb 0 _ _ _ h
def PassP (w:World) (sb:Nat) (l:List UInt8) (p:Nat × Nat) (e:Ending) (w':World):Prop:=e=.returned (.tuple #[])∧SB w' sb l p∧T1 sb w w'
theorem pass_any (w:World) (sb:Nat) (l:List UInt8) (p:Nat × Nat) (n:Nat) (h:SB w sb l p) (hn:n≤l.length) (hl:l.length≤65536) (hp:p.1≤1000000∧p.2≤1000000) :
  Calls Tryz.prog 41 #[Zp sb,Zi (n:Int)] w fun e w'=>PassP w sb (l.drop n) (spL p (l.take n)) e w':=by
 have HBd:Hid (Calls Tryz.prog 15 #[spV p,.string (S (l.take n))] w.drew fun e w'=>e=.returned (spV (spL p (l.take n)))∧Below w.heap.size w w'):=(behind_any w.drew p (l.take n) (by simp;omega) hp).mono fun e w' ⟨a1,a2⟩=>⟨a1,(Grew.refl w).drew.below.trans a2⟩
 obtain⟨q,hq⟩:=nm (spL p (l.take n))
 rw[← hq] at HBd ⊢
 obtain⟨m,hm⟩:=nm (l.length)
 have hsz:(S l).size=m:=by rw[S_size,hm]
 have x1:(S l).extract 0 n=S (l.take n):=by rw[S_cut,List.drop_zero]
 have x2:(S l).extract n m=S (l.drop n):=by rw[S_cut,hm,List.take_length]
 have hnm:(n:Int)≤(m:Int):=by omega
 have hm9:m≤65536:=by omega
 obtain⟨pl,pc⟩:=p
 obtain⟨ql,qc⟩:=q
 simp only at *
 have HCl:Hid (∀U,Below w.heap.size w U→U.cell? ⟨sb,0,none⟩=some (.string (S l))∧U.cell? ⟨sb,1,none⟩=some (Zi (pl:Int))∧U.cell? ⟨sb,2,none⟩=some (Zi (pc:Int))∧U.frozen? ⟨sb,1,none⟩=false∧U.frozen? ⟨sb,2,none⟩=false):=fun U hU=>by
  obtain⟨a0,a1,a2,a3,a4,a5⟩:=(h.kept hU).cells
  exact⟨a0,a1,a2,a4,a5⟩
 have HAf:Hid (∀U,Below w.heap.size w U→SB ((U.setCell ⟨sb,1,none⟩ (Zi (ql:Int))).setCell ⟨sb,2,none⟩ (Zi (qc:Int))) sb l (ql,qc)∧T1 sb w ((U.setCell ⟨sb,1,none⟩ (Zi (ql:Int))).setCell ⟨sb,2,none⟩ (Zi (qc:Int)))):=fun U hU=>⟨(h.kept hU).at (ql,qc),(T1.bel hU).trans (T1.set.trans T1.set)⟩
 have HSt:Hid (∀U,Below w.heap.size w U→(U.setCell ⟨sb,1,none⟩ (Zi (ql:Int))).cell? ⟨sb,2,none⟩=some (Zi (pc:Int))∧(U.setCell ⟨sb,1,none⟩ (Zi (ql:Int))).frozen? ⟨sb,2,none⟩=false):=fun U hU=>by
  have k:=heap_setCell_same U sb 1 _ _ (Zi (ql:Int)) (h.kept hU)
  exact⟨by simp[World.cell?,k],frozen_of_row _ sb 2 _ _ k⟩
 obtain⟨c0,c1,c2,_,_⟩:=HCl.out w (Below.refl _ _)
 clear hq hm h hn hl hp
 go_enter Tryz.func41,Tryz.ntmps41
 go_upto_region 0 with fail
 refine wp_region_held_drew (S:=fun w9=>w9.cell? ⟨sb,0,none⟩=some (.string (S l))) (by kernel_rfl) ?_ (fun hHeld=>?_)
 ·exact c0
 refine wpAnyH_take (i:=0) (v:=Zp sb) rfl (by kernel_rfl) (by kernel_rfl) (by kernel_rfl) (fun _ _ _ h=>h) (Or.inl ⟨by rfl,by intro w hSw;(try dsimp only at hSw);go_simp⟩) (by assumption) ?_
 refine wpAnyH_take (i:=1) (v:=Zp sb) rfl (by kernel_rfl) (by kernel_rfl) (by kernel_rfl) (fun _ _ _ h=>h) (Or.inl ⟨by rfl,by intro w hSw;(try dsimp only at hSw);go_simp⟩) (by assumption) ?_
 refine wpAnyH_take (i:=2) (v:=Zp sb) rfl (by kernel_rfl) (by kernel_rfl) (by kernel_rfl) (fun _ _ _ h=>h) (Or.inl ⟨by rfl,by intro w hSw;(try dsimp only at hSw);go_simp⟩) (by assumption) ?_
 refine wpAnyH_take (i:=3) (v:=.pointer (some ⟨sb,1,none⟩)) rfl (by kernel_rfl) (by kernel_rfl) (by kernel_rfl) (fun _ _ _ h=>h) (Or.inl ⟨by rfl,by intro w hSw;(try dsimp only at hSw);go_simp⟩) (by assumption) ?_
 refine wpAnyH_take (i:=5) (v:=Zp sb) rfl (by kernel_rfl) (by kernel_rfl) (by kernel_rfl) (fun _ _ _ h=>h) (Or.inl ⟨by rfl,by intro w hSw;(try dsimp only at hSw);go_simp⟩) (by assumption) ?_
 refine wpAnyH_take (i:=6) (v:=Zp sb) rfl (by kernel_rfl) (by kernel_rfl) (by kernel_rfl) (fun _ _ _ h=>h) (Or.inl ⟨by rfl,by intro w hSw;(try dsimp only at hSw);go_simp⟩) (by assumption) ?_
 refine wpAnyH_take (i:=7) (v:=Zp sb) rfl (by kernel_rfl) (by kernel_rfl) (by kernel_rfl) (fun _ _ _ h=>h) (Or.inl ⟨by rfl,by intro w hSw;(try dsimp only at hSw);go_simp⟩) (by assumption) ?_
 refine wpAnyH_take (i:=8) (v:=.string (S l)) rfl (by kernel_rfl) (by kernel_rfl) (by kernel_rfl) (fun _ _ _ h=>h) (Or.inl ⟨by rfl,by intro w hSw;(try dsimp only at hSw);go_simp⟩) (by assumption) ?_
 refine wpAnyH_take (i:=9) (v:=Zi (n:Int)) rfl (by kernel_rfl) (by kernel_rfl) (by kernel_rfl) (fun _ _ _ h=>h) (Or.inl ⟨by rfl,by intro w hSw;(try dsimp only at hSw);go_simp⟩) (by assumption) ?_
 refine wpAnyH_take (i:=10) (v:=.string (S (l.take n))) rfl (by kernel_rfl) (by kernel_rfl) (by kernel_rfl) (fun _ _ _ h=>h) (Or.inl ⟨by rfl,by intro w hSw;(try dsimp only at hSw);go_simp⟩) (by assumption) ?_
 refine wpAnyH_ready (rs:=[4]) (by kernel_rfl) (by simp) ?_
 refine AllReadyH.cons rfl (fun K hK=>?_) ?_
 ·go_simp
  refine hK.out _ _ (by assumption) (fun hHeld=>?_)
  clear hK K
  refine wpAnyH_ready (rs:=[11]) (by kernel_rfl) (by simp) ?_
  refine AllReadyH.cons rfl (fun K hK=>?_) ?_
  ·go_simp
   refine HBd.out.mono ?_
   rintro e wa ⟨rfl,hba⟩
   obtain⟨e0,e1,e2,e3,e4⟩:=HCl.out wa hba
   have f3:(wa.setCell ⟨sb,1,none⟩ (Zi (ql:Int))).cell? ⟨sb,2,none⟩=some (Zi (pc:Int)):=(HSt.out wa hba).1
   have f4:(wa.setCell ⟨sb,1,none⟩ (Zi (ql:Int))).frozen? ⟨sb,2,none⟩=false:=(HSt.out wa hba).2
   have HSB:=Zh (HAf.out wa hba)
   have g0:=HSB.out.1.cells.1
   clear hba
   go_wp2_with fail
   refine hK.out _ _ (by exact e0) (fun hHeld=>?_)
   clear hK K
   refine wpAnyH_take (i:=12) (v:=Zp sb) rfl (by kernel_rfl) (by kernel_rfl) (by kernel_rfl) (fun _ _ _ h=>h) (Or.inl ⟨by rfl,by intro w hSw;(try dsimp only at hSw);go_simp⟩) (by assumption) ?_
   refine wpAnyH_take (i:=13) (v:=.pointer (some ⟨sb,1,none⟩)) rfl (by kernel_rfl) (by kernel_rfl) (by kernel_rfl) (fun _ _ _ h=>h) (Or.inl ⟨by rfl,by intro w hSw;(try dsimp only at hSw);go_simp⟩) (by assumption) ?_
   refine wpAnyH_ready (rs:=[14]) (by kernel_rfl) (by simp) ?_
   refine AllReadyH.cons rfl (fun K hK=>?_) ?_
   ·go_simp
    refine hK.out _ _ (by exact g0) (fun hHeld=>?_)
    clear hK K
    refine wpAnyH_done (by kernel_rfl) ?_ _
    generalize (wa.setCell ⟨sb,1,none⟩ (Zi (ql:Int))).setCell ⟨sb,2,none⟩ (Zi (qc:Int))=V at *
    have f0:=HSB.out.1.cells.2.2.2.1
    have HF:Hid (PassP w sb (l.drop n) (ql,qc) (.returned (.tuple #[])) (V.setCell ⟨sb,0,none⟩ (.string (S (l.drop n))))):=⟨rfl,HSB.out.1.rest _,HSB.out.2.trans T1.set⟩
    clear HSB e0 e1 e2 e3 e4 f3 f4
    go_wp2_with fail
    go_end0
    exact HF.out
   exact AllReadyH.nil
  exact AllReadyH.nil
 exact AllReadyH.nil
theorem index_occ:∀(s sub:List UInt8) (i:Nat),Lib.index s sub=(i:Int)→Lib.occAt s sub i=true
 | [],sub,i,h=>by
  unfold Lib.index at h
  split at h
  ·rename_i hs
   have:sub=[]:=by simpa using hs
   subst this
   simp[Lib.occAt]
  ·omega
 | b :: l,sub,i,h=>by
  unfold Lib.index at h
  split at h
  ·rename_i hs
   obtain rfl:i=0:=by omega
   simpa [Lib.occAt] using hs
  ·split at h
   ·omega
   ·rename_i h2
    have h3:=Lib.index_ge l sub
    have h4:Lib.index l sub≠-1:=by simpa using h2
    obtain⟨j,rfl⟩:∃j,i=j+1:=⟨i - 1,by omega⟩
    have ih:=index_occ l sub j (by omega)
    simpa [Lib.occAt] using ih
theorem gapL_le (l:List UInt8):gapL l≤l.length:=by
 unfold gapL
 split
 ·exact frB_le _ _
 ·split
  ·rename_i h2
   split
   ·omega
   ·rename_i hx
    have h1:=index_occ (l.drop 2) [42,47] (Lib.index (l.drop 2) [42,47]).toNat (by omega)
    rcases Lib.occAt_room h1 with h3 | h3
    ·simp only[List.length_drop,List.length_cons,List.length_nil] at h3
     omega
    ·cases h3
  ·exact frB_le _ _
def skN:Nat→List UInt8→Nat × Nat→List UInt8 × (Nat × Nat)
 | 0,l,p=>(l,p)
 | f+1,l,p=>if gapL l=0 then (l,p) else skN f (l.drop (gapL l)) (spL p (l.take (gapL l)))
def skL (l:List UInt8) (p:Nat × Nat):List UInt8 × (Nat × Nat):=skN l.length l p
theorem skN_stop {f:Nat} {l:List UInt8} {p:Nat × Nat} (h:gapL l=0):skN f l p=(l,p):=by
 cases f with
 | zero=>rfl
 | succ f=>simp[skN,h]
theorem skN_go {f:Nat} {l:List UInt8} {p:Nat × Nat} (h:gapL l≠0):skN (f+1) l p=skN f (l.drop (gapL l)) (spL p (l.take (gapL l))):=by simp[skN,h]
def PB (p:Nat × Nat) (l:List UInt8):Prop:=p.1+l.length≤200000∧p.2+l.length≤200000
theorem PB.next {p:Nat × Nat} {l:List UInt8} (h:PB p l) {n:Nat} (hn:n≤l.length):PB (spL p (l.take n)) (l.drop n):=by
 have h1:=spL_pos (l.take n) p
 simp only[List.length_take] at h1
 unfold PB at h ⊢
 simp only[List.length_drop]
 omega
theorem T1.mlen {sb:Nat} {w w':World} (h:T1 sb w w') (hm:MLen w) (hs:2≠sb):MLen w':=by
 obtain⟨m,hm⟩:=hm
 have hlt:=cell_lt hm
 have hb:=h.block _ hlt hs
 exact⟨m,by simp only[World.cell?] at hm ⊢;rw[hb];exact hm⟩
theorem skip_any (w:World) (sb:Nat) (l:List UInt8) (p:Nat × Nat) (h:SB w sb l p) (hl:l.length≤65536) (hp:PB p l) (hm:MLen w) (hs:2≠sb) :
  Calls Tryz.prog 39 #[Zp sb] w fun e w'=>PassP w sb (skL l p).1 (skL l p).2 e w':=by
 have c0:=h.cells.1
 have HG:=Zh (gap_any w l hl hm)
 obtain⟨z,hz⟩:=nm (skL l p)
 rw[← hz]
 have HS0:Hid (∃f l' p',skN f l' p'=z∧l'.length≤f∧l'.length≤65536∧PB p' l'∧SB w sb l' p'∧T1 sb w w∧MLen w∧l'=l):=⟨l.length,l,p,hz.symm,Nat.le_refl _,hl,hp,h,T1.bel (Below.refl _ _),hm,rfl⟩
 have HSb:=Zh hs
 clear hz h hl hp hm hs
 go_enter Tryz.func39,Tryz.ntmps39
 go_wp2_with fail
 refine HG.out.mono ?_
 rintro e w1 ⟨rfl,hg⟩
 have HS1:Hid (∃f l' p',skN f l' p'=z∧l'.length≤f∧l'.length≤65536∧PB p' l'∧SB w1 sb l' p'∧T1 sb w w1∧MLen w1∧l'=l):=by
  obtain⟨f,l',p',a1,a2,a3,a4,a5,a6,a7,a8⟩:=HS0.out
  exact⟨f,l',p',a1,a2,a3,a4,a5.kept hg.below,T1.bel hg.below,a7.kept hg.below,a8⟩
 clear hg HS0 c0 HG
 go_wp2_with fail
 go_loopw[2] (fun x wr=>∃(l':List UInt8),x=Zi ((gapL l':Nat):Int)∧Hid (∃f p',skN f l' p'=z∧l'.length≤f∧l'.length≤65536∧PB p' l'∧SB wr sb l' p'∧T1 sb w wr∧MLen wr)) (fun _ wr=>(match wr.cell? ⟨sb,0,none⟩ with | some (.string s)=>s.size | _=>0))
 case atStart=>
  obtain⟨f,l',p',a1,a2,a3,a4,a5,a6,a7,rfl⟩:=HS1.out
  exact⟨l',rfl,f,p',a1,a2,a3,a4,a5,a6,a7⟩
 case round=>
  clear HS1
  obtain⟨l',rfl,HI⟩:=hrel
  obtain⟨g,hg⟩:=nm (gapL l')
  have HGl:=Zh hg
  rw[← hg]
  by_cases h0:g=0
  ·subst h0
   have HF:Hid (PassP w sb z.1 z.2 (.returned (.tuple #[])) wr):=by
    obtain⟨f,p',a1,a2,a3,a4,a5,a6,a7⟩:=HI.out
    rw[skN_stop HGl.out.symm] at a1
    rw[← a1]
    exact⟨rfl,a5,a6⟩
   clear HI hg
   go_wp2_with fail
   go_end0
   exact HF.out
  ·have hgp:(0:Int) < (g:Int):=by omega
   have HP:Hid (Calls Tryz.prog 41 #[Zp sb,Zi (g:Int)] wr fun e w'=>e=.returned (.tuple #[])∧w'.cell? ⟨sb,0,none⟩=some (.string (S (l'.drop g)))∧(l'.drop g).length≤65536∧(l'.drop g).length < l'.length∧wr.cell? ⟨sb,0,none⟩=some (.string (S l'))∧∃f p',skN f (l'.drop g) p'=z∧(l'.drop g).length≤f∧(l'.drop g).length≤65536∧PB p' (l'.drop g)∧SB w' sb (l'.drop g) p'∧T1 sb w w'∧MLen w'):=by
    obtain⟨f,p',a1,a2,a3,a4,a5,a6,a7⟩:=HI.out
    have hgl:g≤l'.length:=by rw[hg];exact gapL_le l'
    refine (pass_any wr sb l' p' g a5 hgl a3 ⟨by have:=a4.1;omega,by have:=a4.2;omega⟩).mono fun e w' ⟨b1,b2,b3⟩=>?_
    obtain⟨f',rfl⟩:∃f',f=f'+1:=⟨f - 1,by omega⟩
    rw[skN_go (by rw[← hg];exact h0),← hg] at a1
    refine⟨b1,b2.cells.1,by simp;omega,by simp;omega,a5.cells.1,f',_,a1,by simp;omega,by simp;omega,a4.next hgl,b2,a6.trans b3,b3.mlen a7 HSb.out⟩
   clear HI hg
   go_wp2_with fail
   refine HP.out.mono ?_
   rintro e w2 ⟨rfl,c2,hl2,hlt2,c3,hst⟩
   have HG2:=Zh (gap_any w2 (l'.drop g) hl2 (by obtain⟨_,_,_,_,_,_,_,_,h7⟩:=hst;exact h7))
   have HST:=Zh hst
   have HC3:=Zh c3
   have HL2:=Zh hlt2
   clear hst HP c3 hlt2 hl2
   go_wp2_with fail
   refine HG2.out.mono ?_
   rintro e w3 ⟨rfl,hg3⟩
   have HF:Hid (∃f p',skN f (l'.drop g) p'=z∧(l'.drop g).length≤f∧(l'.drop g).length≤65536∧PB p' (l'.drop g)∧SB w3 sb (l'.drop g) p'∧T1 sb w w3∧MLen w3):=by
    obtain⟨f,p',a1,a2,a3,a4,a5,a6,a7⟩:=HST.out
    exact⟨f,p',a1,a2,a3,a4,a5.kept hg3.below,a6.trans (T1.bel hg3.below),a7.kept hg3.below⟩
   have HC4:Hid (w3.cell? ⟨sb,0,none⟩=some (.string (S (l'.drop g)))):=by
    obtain⟨_,_,_,_,_,_,h5,_⟩:=HF.out
    exact h5.cells.1
   clear hg3 HG2 HST c2
   go_wp2_with fail
   go_roundw
   case rel=>exact⟨l'.drop g,rfl,HF⟩
   case measure=>
    rw[HC3.out,HC4.out]
    simp only[S_size]
    exact HL2.out
end Go.Proofs.YtlfooogmoigpfaaGreatDoor
