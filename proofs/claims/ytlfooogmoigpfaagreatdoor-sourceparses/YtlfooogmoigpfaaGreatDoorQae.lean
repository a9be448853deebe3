import Derived.Test.YtlfooogmoigpfaaGreatDoorQac
import Derived.Test.YtlfooogmoigpfaaGreatDoorQad
import Derived.Test.YtlfooogmoigpfaaGreatDoorQaa
set_option maxRecDepth 100000
set_option maxHeartbeats 8000000
namespace Go.Proofs.YtlfooogmoigpfaaGreatDoor
open Go.RowKit Go.Sort Go.Shelf
theorem next_any (w:World) (rb:Nat) (ts:List Tok) (en:Nat × Nat) (nest:Nat) (v:Value) (h:RdB w rb ts en nest v):Calls Tryz.prog 106 #[Zp rb] w fun e w'=>e=.returned (tkV (nxtK ts) (nxtT ts) (nxtN ts) (nxtP en ts))∧Below w.heap.size w w':=by
 have HB:Hid (∀o,Below w.heap.size w (w.alloc o)):=fun o=>bel_al w o
 have HR:Hid (∀o,RdB (w.alloc o) rb ts en nest v):=fun o=>h.kept (bel_al w o)
 obtain⟨ao,c,rfl,hlc,ht⟩:=h.tok
 obtain⟨⟨c0,c1,c2,c3⟩,_⟩:=(HR.out (.cells #[Zi 0,Ze,Zi 0,Zi 0,Zi 0] 83)).cells
 cases ts with
 | nil=>
  obtain⟨el,ec⟩:=en
  simp only[List.length_nil] at c0
  simp only at c1 c2
  clear h hlc ht HR c3
  go_enter Tryz.func106,Tryz.ntmps106
  go_wp2
  exact bodyPost_ret (v:=tkV 0 [] 0 (el,ec)) (by simp[results,Tryz.results106,go_sem];rfl) rfl ⟨rfl,HB.out _⟩
 | cons t r=>
  rcases ht with ht | ⟨g,o,rfl,hg,ht⟩
  ·cases ht
  ·have ht2:=ht.same ((bel_al w (.cells #[Zi 0,Ze,Zi 0,Zi 0,Zi 0] 83)).block g (Nat.lt_trans hg (blk_lt h.box)))
   obtain⟨d0,d1,d2,d3,d4⟩:=ht2.head
   obtain⟨kd,tx,nv,tl,tc⟩:=t
   simp only[List.length_cons] at c0
   simp only at d0 d1 d2 d3 d4
   have hl0:((r.length+1:Nat):Int)≠0:=by omega
   obtain⟨m,hm⟩:=nm (r.length+1)
   rw[← hm] at c0 hl0
   have hm0:(0:Int) < (m:Int):=by omega
   have hmb:((m:Int) == 0)=false:=by simp;omega
   clear h hlc ht ht2 HR hg hm hl0 c1 c2 c3
   go_enter Tryz.func106,Tryz.ntmps106
   go_wp2
   exact bodyPost_ret (v:=tkV kd tx nv (tl,tc)) (by simp[results,Tryz.results106,go_sem]) rfl ⟨rfl,HB.out _⟩
theorem comes_any (w:World) (rb:Nat) (ts:List Tok) (en:Nat × Nat) (nest:Nat) (v:Value) (s:List UInt8) (h:RdB w rb ts en nest v):Calls Tryz.prog 78 #[Zp rb,.string (S s)] w fun e w'=>e=.returned (.bool (decide (nxtT ts=s)))∧Below w.heap.size w w':=by
 have HN:=next_any w rb ts en nest v h
 have h1:=S_toList (nxtT ts)
 have h2:=S_toList s
 generalize nxtP en ts=p at *
 generalize nxtN ts=nv at *
 generalize nxtK ts=kd at *
 obtain⟨pl,pc⟩:=p
 have HN:Hid (Calls Tryz.prog 106 #[Zp rb] w fun e w'=>e=.returned (.agg #[Zi (kd:Int),.string (S (nxtT ts)),Zi nv,Zi (pl:Int),Zi (pc:Int)])∧Below w.heap.size w w'):=Zh HN
 by_cases he:nxtT ts=s
 ·have hb:((S (nxtT ts)).toList == (S s).toList)=true:=by rw[he];simp
  rw[decide_eq_true he]
  clear he h1 h2 h
  generalize S (nxtT ts)=u1 at *
  generalize S s=u2 at *
  have hfl:∀w:World,(Instr.field 83 (.agg #[Zi (kd:Int),.string u1,Zi nv,Zi (pl:Int),Zi (pc:Int)]) 1).run Tryz.prog w=.ok (.string u1) w:=fun _=>by kernel_rfl
  go_enter Tryz.func78,Tryz.ntmps78
  go_wp2_with fail
  refine HN.out.mono ?_
  rintro e w1 ⟨rfl,hb1⟩
  have HB:=Zh hb1
  clear hb1 HN
  go_wp2_with fail
  exact bodyPost_ret (v:=.bool true) (by simp[results,Tryz.results78,go_sem]) rfl ⟨rfl,HB.out⟩
 ·have hb:((S (nxtT ts)).toList == (S s).toList)=false:=by rw[h1,h2];simpa using he
  rw[decide_eq_false he]
  clear he h1 h2 h
  generalize S (nxtT ts)=u1 at *
  generalize S s=u2 at *
  have hfl:∀w:World,(Instr.field 83 (.agg #[Zi (kd:Int),.string u1,Zi nv,Zi (pl:Int),Zi (pc:Int)]) 1).run Tryz.prog w=.ok (.string u1) w:=fun _=>by kernel_rfl
  go_enter Tryz.func78,Tryz.ntmps78
  go_wp2_with fail
  refine HN.out.mono ?_
  rintro e w1 ⟨rfl,hb1⟩
  have HB:=Zh hb1
  clear hb1 HN
  go_wp2_with fail
  exact bodyPost_ret (v:=.bool false) (by simp[results,Tryz.results78,go_sem]) rfl ⟨rfl,HB.out⟩
def TakP (w:World) (rb:Nat) (t:Tok) (r:List Tok) (en:Nat × Nat) (nest:Nat) (e:Ending) (w':World):Prop:=e=.returned (tkV t.1 t.2.1 t.2.2.1 t.2.2.2)∧T1 rb w w'∧∃v,RdB w' rb r en nest v
theorem take_fin {w W2:World} {rb C:Nat} {t:Tok} {r:List Tok} {en:Nat × Nat} {nest:Nat} {v v':Value} (hC:w.heap.size≤C) (hrb:rb < w.heap.size) (hR:RdB W2 rb (t :: r) en nest v) (hb:Below w.heap.size w W2) {a0 a1 a2 a3 a4:Value} (h0:Row5 W2 w.heap.size a0 a1 a2 a3 a4) (h1:Row5 W2 C (Zi (t.1:Int)) (.string (S t.2.1)) (Zi t.2.2.1) (Zi (t.2.2.2.1:Int)) (Zi (t.2.2.2.2:Int))) (ht:TsAt W2 rb v' r):Row5 (W2.setCell ⟨rb,0,none⟩ v') C (Zi (t.1:Int)) (.string (S t.2.1)) (Zi t.2.2.1) (Zi (t.2.2.2.1:Int)) (Zi (t.2.2.2.2:Int))∧Row5 (W2.setCell ⟨rb,0,none⟩ v') w.heap.size a0 a1 a2 a3 a4∧(∀v0 v1 v2 v3 v4,Row5 (put5 (W2.setCell ⟨rb,0,none⟩ v') w.heap.size v0 v1 v2 v3 v4) w.heap.size v0 v1 v2 v3 v4∧T1 rb w (put5 (W2.setCell ⟨rb,0,none⟩ v') w.heap.size v0 v1 v2 v3 v4)∧RdB (put5 (W2.setCell ⟨rb,0,none⟩ v') w.heap.size v0 v1 v2 v3 v4) rb r en nest v'):=by
 obtain⟨hr,ht1⟩:=hR.rest ht
 have g0:=ht1.row5 h0 (by omega)
 have g1:=ht1.row5 h1 (by omega)
 refine⟨g1,g0,fun v0 v1 v2 v3 v4=>?_⟩
 have hp:Below w.heap.size (W2.setCell ⟨rb,0,none⟩ v') (put5 (W2.setCell ⟨rb,0,none⟩ v') w.heap.size v0 v1 v2 v3 v4):=put5_below (Below.refl _ _) (Nat.le_refl _) v0 v1 v2 v3 v4
 refine⟨g0.put v0 v1 v2 v3 v4,?_,?_⟩
 ·have h3:=(T1.bel hb).trans ht1
  exact⟨hp.os.trans h3.os,hp.tape.trans h3.tape,hp.output.trans h3.output,Nat.le_trans h3.size hp.size,fun k hk hn=>(hp.block k hk).trans (h3.block k hk hn)⟩
 ·exact⟨(hp.block rb hrb).trans hr.box,hr.tok.same (fun k hk=>hp.block k (Nat.lt_trans hk hrb))⟩
theorem take_any (w:World) (rb:Nat) (t:Tok) (r:List Tok) (en:Nat × Nat) (nest:Nat) (v:Value) (h:RdB w rb (t :: r) en nest v):Calls Tryz.prog 79 #[Zp rb] w fun e w'=>TakP w rb t r en nest e w':=by
 have hrb:=blk_lt h.box
 obtain⟨ao,c,rfl,hlc,ht⟩:=h.tok
 rcases ht with ht | ⟨g,o,rfl,hg,ht⟩
 ·cases ht
 obtain⟨kd,tx,nv,tl,tc⟩:=t
 simp only[List.length_cons] at hlc h
 obtain⟨m,hm⟩:=nm (r.length+1)
 rw[← hm] at h hlc
 have ht0:=ht
 obtain⟨W1,hW1⟩:=nm (w.alloc (.cells #[Zi 0,Ze,Zi 0,Zi 0,Zi 0] 83))
 have hb1:Below w.heap.size w W1:=by rw[hW1];exact bel_al _ _
 have HR1:Hid (Row5 W1 w.heap.size (Zi 0) (Ze) (Zi 0) (Zi 0) (Zi 0)):=by show Row5 _ _ _ _ _ _ _;rw[hW1];exact Row5.al _ _ _ _ _ _
 have hs1:w.heap.size≤W1.heap.size:=hb1.size
 have HW2:Hid (Row5 (W1.alloc (.cells #[Zi (kd:Int),.string (S tx),Zi nv,Zi (tl:Int),Zi (tc:Int)] 83)) W1.heap.size (Zi (kd:Int)) (.string (S tx)) (Zi nv) (Zi (tl:Int)) (Zi (tc:Int))∧Row5 (W1.alloc (.cells #[Zi (kd:Int),.string (S tx),Zi nv,Zi (tl:Int),Zi (tc:Int)] 83)) w.heap.size (Zi 0) (Ze) (Zi 0) (Zi 0) (Zi 0)∧Below w.heap.size w (W1.alloc (.cells #[Zi (kd:Int),.string (S tx),Zi nv,Zi (tl:Int),Zi (tc:Int)] 83))):=
  ⟨Row5.al W1 _ _ _ _ _,HR1.out.kept (bel_al _ _),hb1.trans ((bel_al W1 _).mono hb1.size)⟩
 have HH:=Zh h
 have hm0:(0:Int) < (m:Int):=by omega
 have hm1:(1:Int)≤(m:Int):=by omega
 obtain⟨⟨c0,_⟩,_⟩:=(h.kept hb1).cells
 obtain⟨d0,d1,d2,d3,d4⟩:=(ht.same (hb1.block g (Nat.lt_trans hg hrb))).head
 simp only at d0 d1 d2 d3 d4
 have HHm:=Zh hm
 have HHt:=Zh ht0
 have HHg:=Zh hg
 have HHr:=Zh hrb
 have HHs:=Zh hs1
 clear h ht ht0 hs1 hb1 hm hg hrb
 go_enter Tryz.func79,Tryz.ntmps79
 go_upto_region 1 with fail
 rw[← hW1]
 clear hW1 HR1
 go_upto_region 2 with fail
 obtain⟨HRt,HR0,HBw⟩:=HW2.out
 clear HW2
 obtain⟨C,hC⟩:=nm (W1.heap.size)
 rw[← hC] at HRt HHs ⊢
 clear hC
 generalize W1.alloc (.cells #[Zi (kd:Int),.string (S tx),Zi nv,Zi (tl:Int),Zi (tc:Int)] 83)=W2 at *
 have HR2:=HH.out.kept HBw
 obtain⟨⟨e0,_⟩,ef,_⟩:=HR2.cells
 have HRt:=Zh HRt
 have HR0:=Zh HR0
 have HBw:=Zh HBw
 have HR2:=Zh HR2
 clear c0 d0 d1 d2 d3 d4 HH
 by_cases hc:c=1
 ·have hme:m=1:=by omega
  subst hc
  subst hme
  have hr:r=[]:=List.eq_nil_of_length_eq_zero (by have:=HHm.out;omega)
  obtain⟨g1,g0,HP⟩:=take_fin (v':=.slice (some ⟨g,o,none⟩) 0 0) HHs.out HHr.out HR2.out HBw.out HR0.out HRt.out ⟨_,_,by rw[hr];rfl,by simp[hr],.inl hr⟩
  subst hr
  have HP:=Zh HP
  have G0:=Zh g0
  have G1:=Zh g1
  clear g0 g1
  go_upto_region 3 with fail
  have g1:=G1.out
  have g0:=G0.out
  obtain⟨⟨x0,x1,x2,x3,x4⟩,_⟩:=g1.cells
  obtain⟨_,y0,y1,y2,y3,y4⟩:=g0.cells
  go_wp2_with fail
  obtain⟨hr,ht1,hR⟩:=HP.out (Zi (kd:Int)) (.string (S tx)) (Zi nv) (Zi (tl:Int)) (Zi (tc:Int))
  obtain⟨⟨d0,d1,d2,d3,d4⟩,_⟩:=hr.cells
  exact bodyPost_ret (v:=tkV kd tx nv (tl,tc)) (by simp[results,Tryz.results79,go_sem,d0,d1,d2,d3,d4]) rfl ⟨rfl,ht1,_,hR⟩
 ·obtain⟨g1,g0,HP⟩:=take_fin (v':=.slice (some ⟨g,o+5,none⟩) (m - 1) (c - 1)) HHs.out HHr.out HR2.out HBw.out HR0.out HRt.out ⟨some ⟨g,o+5,none⟩,c - 1,by rw[show m - 1=r.length by have:=HHm.out;omega],by have:=HHm.out;omega,.inr ⟨g,o+5,rfl,HHg.out,(HHt.out.same (HBw.out.block g (Nat.lt_trans HHg.out HHr.out))).tail⟩⟩
  have HP:=Zh HP
  have G0:=Zh g0
  have G1:=Zh g1
  clear g0 g1
  go_upto_region 3 with fail
  have g1:=G1.out
  have g0:=G0.out
  obtain⟨⟨x0,x1,x2,x3,x4⟩,_⟩:=g1.cells
  obtain⟨_,y0,y1,y2,y3,y4⟩:=g0.cells
  go_wp2_with fail
  obtain⟨hr,ht1,hR⟩:=HP.out (Zi (kd:Int)) (.string (S tx)) (Zi nv) (Zi (tl:Int)) (Zi (tc:Int))
  obtain⟨⟨d0,d1,d2,d3,d4⟩,_⟩:=hr.cells
  exact bodyPost_ret (v:=tkV kd tx nv (tl,tc)) (by simp[results,Tryz.results79,go_sem,d0,d1,d2,d3,d4]) rfl ⟨rfl,ht1,_,hR⟩
theorem takes_any (w:World) (rb:Nat) (ts:List Tok) (en:Nat × Nat) (nest:Nat) (v:Value) (s:List UInt8) (hs:s≠[]) (h:RdB w rb ts en nest v):Calls Tryz.prog 44 #[Zp rb,.string (S s)] w fun e w'=>e=.returned (.bool (decide (nxtT ts=s)))∧T1 rb w w'∧∃v',RdB w' rb (if nxtT ts=s then ts.tail else ts) en nest v':=by
 have HC:=comes_any w rb ts en nest v s h
 by_cases he:nxtT ts=s
 ·rw[decide_eq_true he] at HC ⊢
  rw[if_pos he]
  cases ts with
  | nil=>exact absurd he.symm hs
  | cons t r=>
   have HC:=Zh HC
   have HT:Hid (∀U,Below w.heap.size w U→Calls Tryz.prog 79 #[Zp rb] U fun e w'=>e=.returned (tkV t.1 t.2.1 t.2.2.1 t.2.2.2)∧T1 rb w w'∧∃v',RdB w' rb r en nest v'):=fun U hU=>(take_any U rb t r en nest v (h.kept hU)).mono fun e w' q=>⟨q.1,(T1.bel hU).trans q.2.1,q.2.2⟩
   rw[List.tail_cons]
   clear h he
   generalize S s=u1 at *
   go_enter Tryz.func44,Tryz.ntmps44
   go_wp2_with fail
   refine HC.out.mono ?_
   rintro e w1 ⟨rfl,hb⟩
   have HB:=Zh hb
   clear hb HC
   go_wp2_with fail
   refine (HT.out w1 HB.out).mono ?_
   rintro e w2 ⟨rfl,h12⟩
   have HE:=Zh h12
   clear h12 HT HB
   go_wp2_with fail
   exact bodyPost_ret (v:=.bool true) (by simp[results,Tryz.results44,go_sem]) rfl ⟨rfl,HE.out⟩
 ·rw[decide_eq_false he] at HC ⊢
  rw[if_neg he]
  have HC:=Zh HC
  have HH:=Zh h
  clear h he
  generalize S s=u1 at *
  go_enter Tryz.func44,Tryz.ntmps44
  go_wp2_with fail
  refine HC.out.mono ?_
  rintro e w1 ⟨rfl,hb⟩
  have HB:=Zh hb
  clear hb HC
  go_wp2_with fail
  exact bodyPost_ret (v:=.bool false) (by simp[results,Tryz.results44,go_sem]) rfl ⟨rfl,T1.bel HB.out,_,HH.out.kept HB.out⟩
theorem giveUpS_any (w:World) (rb:Nat) (ts:List Tok) (en:Nat × Nat) (nest:Nat) (v:Value) (x:Nat) (h:RdB w rb ts en nest v):Calls Tryz.prog 110 #[Zp rb,Zi (x:Int)] w fun e w'=>e=.panicked (fltS (nxtP en ts) x)∧Below w.heap.size w w':=by
 have HN:=fun U (hU:Below w.heap.size w U)=>(next_any U rb ts en nest v (h.kept hU)).mono fun e w' q=>(⟨q.1,hU.trans (q.2.mono hU.size)⟩:e=.returned (tkV (nxtK ts) (nxtT ts) (nxtN ts) (nxtP en ts))∧Below w.heap.size w w')
 generalize nxtP en ts=p at *
 generalize nxtN ts=nv at *
 generalize nxtK ts=kd at *
 obtain⟨pl,pc⟩:=p
 have HN:Hid (∀U,Below w.heap.size w U→Calls Tryz.prog 106 #[Zp rb] U fun e w'=>e=.returned (.agg #[Zi (kd:Int),.string (S (nxtT ts)),Zi nv,Zi (pl:Int),Zi (pc:Int)])∧Below w.heap.size w w'):=Zh HN
 generalize S (nxtT ts)=u1 at *
 have HR:Hid (Below w.heap.size w w):=Below.refl _ _
 clear h
 go_enter Tryz.func110,Tryz.ntmps110
 go_wp2_with fail
 refine (HN.out w HR.out).mono ?_
 rintro e w1 ⟨rfl,hb⟩
 have HB:=Zh hb
 clear hb HN HR
 have hfl:∀w:World,(Instr.field 83 (.agg #[Zi (kd:Int),.string u1,Zi nv,Zi (pl:Int),Zi (pc:Int)]) 3).run Tryz.prog w=.ok (.agg #[Zi (pl:Int),Zi (pc:Int)]) w:=fun _=>by kernel_rfl
 go_wp2_with fail
 exact⟨rfl,rfl,HB.out⟩
theorem want_any (w:World) (rb:Nat) (ts:List Tok) (en:Nat × Nat) (nest:Nat) (v:Value) (b:Bool) (h:RdB w rb ts en nest v):Calls Tryz.prog 82 #[Zp rb,.bool b] w fun e w'=>e=(if b then .returned (.tuple #[]) else .panicked (fltS (nxtP en ts) 181))∧Below w.heap.size w w':=by
 have HG:=Zh (giveUpS_any w rb ts en nest v 181 h)
 clear h
 generalize nxtP en ts=p at *
 obtain⟨pl,pc⟩:=p
 cases b with
 | true=>
  have HR:Hid (Below w.heap.size w w):=Below.refl _ _
  clear HG
  go_enter Tryz.func82,Tryz.ntmps82
  go_wp2
  go_end0
  exact⟨rfl,HR.out⟩
 | false=>
  go_enter Tryz.func82,Tryz.ntmps82
  go_wp2_with fail
  refine HG.out.mono ?_
  rintro e w1 ⟨rfl,hb⟩
  exact⟨rfl,rfl,hb⟩
theorem must_any (w:World) (rb:Nat) (ts:List Tok) (en:Nat × Nat) (nest:Nat) (v:Value) (s:List UInt8) (hs:s≠[]) (h:RdB w rb ts en nest v):Calls Tryz.prog 46 #[Zp rb,.string (S s)] w (PrP w rb en nest (pMust en s ts) fun _ v _=>v=.tuple #[]):=by
 have HC:=comes_any w rb ts en nest v s h
 have HW:Hid (∀U,Below w.heap.size w U→∀b,Calls Tryz.prog 82 #[Zp rb,.bool b] U fun e w'=>e=(if b then .returned (.tuple #[]) else .panicked (fltS (nxtP en ts) 181))∧Below w.heap.size w w'):=fun U hU b=>(want_any U rb ts en nest v b (h.kept hU)).mono fun e w' q=>⟨q.1,hU.trans (q.2.mono hU.size)⟩
 unfold pMust
 by_cases he:nxtT ts=s
 ·rw[decide_eq_true he] at HC
  rw[if_pos he]
  cases ts with
  | nil=>exact absurd he.symm hs
  | cons t r=>
   have HC:=Zh HC
   have HT:Hid (∀U,Below w.heap.size w U→Calls Tryz.prog 79 #[Zp rb] U fun e w'=>e=.returned (tkV t.1 t.2.1 t.2.2.1 t.2.2.2)∧T1 rb w w'∧∃v',RdB w' rb r en nest v'):=fun U hU=>(take_any U rb t r en nest v (h.kept hU)).mono fun e w' q=>⟨q.1,(T1.bel hU).trans q.2.1,q.2.2⟩
   rw[List.tail_cons]
   clear h he
   generalize S s=u1 at *
   go_enter Tryz.func46,Tryz.ntmps46
   go_wp2_with fail
   refine HC.out.mono ?_
   rintro e w1 ⟨rfl,hb⟩
   have HB:=Zh hb
   clear hb HC
   go_wp2_with fail
   refine (HW.out w1 HB.out true).mono ?_
   rintro e w2 ⟨rfl,hb⟩
   have HB:=Zh hb
   clear hb HW
   go_wp2_with fail
   refine (HT.out w2 HB.out).mono ?_
   rintro e w3 ⟨rfl,h1,v',h2⟩
   have HE:Hid (T1 rb w w3∧RdB w3 rb r en nest v'):=Zh ⟨h1,h2⟩
   clear h1 h2 HT HB
   go_wp2_with fail
   exact bodyPost_ret (v:=.tuple #[]) (by simp[results,Tryz.results46,go_sem]) rfl ⟨_,_,rfl,rfl,HE.out.2,HE.out.1⟩
 ·rw[decide_eq_false he] at HC
  rw[if_neg he]
  have HC:=Zh HC
  clear h he
  generalize S s=u1 at *
  go_enter Tryz.func46,Tryz.ntmps46
  go_wp2_with fail
  refine HC.out.mono ?_
  rintro e w1 ⟨rfl,hb⟩
  have HB:=Zh hb
  clear hb HC
  go_wp2_with fail
  refine (HW.out w1 HB.out false).mono ?_
  rintro e w2 ⟨rfl,hb⟩
  exact⟨rfl,rfl,T1.bel hb⟩
def Row3 (W:World) (R:Nat) (v0 v1 v2:Value):Prop:=W.heap[R]? = some (.cells #[v0,v1,v2] 89 (0,0))
theorem Row3.kept {w w':World} {R:Nat} {v0 v1 v2:Value} (h:Row3 w R v0 v1 v2) (hb:Below w.heap.size w w'):Row3 w' R v0 v1 v2:=(hb.block _ (blk_lt h)).trans h
theorem Row3.t1 {sb:Nat} {w w':World} {R:Nat} {v0 v1 v2:Value} (h:Row3 w R v0 v1 v2) (ht:T1 sb w w') (hn:R≠sb):Row3 w' R v0 v1 v2:=(ht.block R (blk_lt h) hn).trans h
theorem Row3.cells {W:World} {R:Nat} {v0 v1 v2:Value} (h:Row3 W R v0 v1 v2):(W.cell? ⟨R,0,none⟩=some v0∧W.cell? ⟨R,1,none⟩=some v1∧W.cell? ⟨R,2,none⟩=some v2)∧W.frozen? ⟨R,0,none⟩=false∧W.frozen? ⟨R,1,none⟩=false∧W.frozen? ⟨R,2,none⟩=false:=by
 unfold Row3 at h
 exact⟨⟨by simp[World.cell?,h],by simp[World.cell?,h],by simp[World.cell?,h]⟩,frozen_of_row W R 0 _ _ h,frozen_of_row W R 1 _ _ h,frozen_of_row W R 2 _ _ h⟩
theorem RdB.low {W W':World} {rb C:Nat} {ts:List Tok} {en:Nat × Nat} {nest:Nat} {v:Value} (h:RdB W rb ts en nest v) (hb:Below C W W') (hrb:rb < C):RdB W' rb ts en nest v:=
 ⟨(hb.block rb hrb).trans h.box,h.tok.same (fun k hk=>hb.block k (Nat.lt_trans hk hrb))⟩
theorem T1.low {sb:Nat} {w W W':World} (h:T1 sb w W) (hb:Below w.heap.size W W'):T1 sb w W':=
 ⟨hb.os.trans h.os,hb.tape.trans h.tape,hb.output.trans h.output,Nat.le_trans h.size hb.size,fun k hk hn=>(hb.block k hk).trans (h.block k hk hn)⟩
abbrev put3 (W:World) (R:Nat) (v0 v1 v2:Value):World:=((W.setCell ⟨R,0,none⟩ v0).setCell ⟨R,1,none⟩ v1).setCell ⟨R,2,none⟩ v2
theorem put3_below {C:Nat} {W0 W:World} (hb:Below C W0 W) {R:Nat} (hR:C≤R) (v0 v1 v2:Value):Below C W0 (put3 W R v0 v1 v2):=(((hb.setCell (p:=⟨R,0,none⟩) hR v0).setCell (p:=⟨R,1,none⟩) hR v1).setCell (p:=⟨R,2,none⟩) hR v2)
theorem Row3.put {W:World} {R:Nat} {a0 a1 a2:Value} (h:Row3 W R a0 a1 a2) (v0 v1 v2:Value):Row3 (put3 W R v0 v1 v2) R v0 v1 v2:=
 heap_setCell_same _ R 2 _ _ v2 (heap_setCell_same _ R 1 _ _ v1 (heap_setCell_same _ R 0 _ _ v0 h))
theorem name_any (w:World) (rb:Nat) (ts:List Tok) (en:Nat × Nat) (nest:Nat) (v:Value) (h:RdB w rb ts en nest v):Calls Tryz.prog 80 #[Zp rb] w (PrP w rb en nest (pName en ts) fun n v _=>v=.agg #[.string (S n.1),Zi (n.2.1:Int),Zi (n.2.2:Int)]):=by
 obtain⟨W1,hW1⟩:=nm (w.alloc (.cells #[Ze,Zi 0,Zi 0] 89))
 have hb1:Below w.heap.size w W1:=by rw[hW1];exact bel_al _ _
 have HX1:Hid (Row3 W1 w.heap.size (Ze) (Zi 0) (Zi 0)):=by show Row3 _ _ _ _ _;rw[hW1];exact heap_alloc_new _ _ rfl
 have HN:=(next_any W1 rb ts en nest v (h.kept hb1)).mono fun e w' q=>(⟨q.1,hb1.trans (q.2.mono hb1.size),HX1.out.kept q.2⟩:e=.returned (tkV (nxtK ts) (nxtT ts) (nxtN ts) (nxtP en ts))∧Below w.heap.size w w'∧Row3 w' w.heap.size (Ze) (Zi 0) (Zi 0))
 have HW:Hid (∀U,Below w.heap.size w U→∀b,Calls Tryz.prog 82 #[Zp rb,.bool b] U fun e w'=>e=(if b then .returned (.tuple #[]) else .panicked (fltS (nxtP en ts) 181))∧Below w.heap.size w w'∧∀a0 a1 a2,Row3 U w.heap.size a0 a1 a2→Row3 w' w.heap.size a0 a1 a2):=fun U hU b=>(want_any U rb ts en nest v b (h.kept hU)).mono fun e w' q=>⟨q.1,hU.trans (q.2.mono hU.size),fun a0 a1 a2 hr=>hr.kept q.2⟩
 unfold pName
 have hfl:∀(k n l c:Int) (u:ByteArray) (w:World),(Instr.field 83 (.agg #[Zi k,.string u,Zi n,Zi l,Zi c]) 0).run Tryz.prog w=.ok (Zi k) w:=fun _ _ _ _ _ _=>by kernel_rfl
 by_cases he:nxtK ts=1
 ·rw[if_pos he]
  cases ts with
  | nil=>cases he
  | cons t r=>
   obtain⟨kd,tx,nv,tl,tc⟩:=t
   have hk:kd=1:=he
   subst hk
   have HN:Hid (Calls Tryz.prog 106 #[Zp rb] W1 fun e w'=>e=.returned (.agg #[Zi 1,.string (S tx),Zi nv,Zi (tl:Int),Zi (tc:Int)])∧Below w.heap.size w w'∧Row3 w' w.heap.size (Ze) (Zi 0) (Zi 0)):=Zh HN
   have HT:Hid (∀U,Below w.heap.size w U→Calls Tryz.prog 79 #[Zp rb] U fun e w'=>e=.returned (.agg #[Zi 1,.string (S tx),Zi nv,Zi (tl:Int),Zi (tc:Int)])∧(T1 rb w w'∧∀a0 a1 a2,Row3 U w.heap.size a0 a1 a2→Row3 w' w.heap.size a0 a1 a2)∧∃v',RdB w' rb r en nest v'):=fun U hU=>(take_any U rb (1,tx,nv,tl,tc) r en nest v (h.kept hU)).mono fun e w' q=>⟨q.1,⟨(T1.bel hU).trans q.2.1,fun a0 a1 a2 hr=>hr.t1 q.2.1 (by have:=blk_lt h.box;omega)⟩,q.2.2⟩
   have HRb:Hid (rb < w.heap.size):=blk_lt h.box
   clear h he hb1
   go_enter Tryz.func80,Tryz.ntmps80
   go_wp2_with fail
   rw[← hW1]
   clear hW1
   refine HN.out.mono ?_
   rintro e w1 ⟨rfl,hb,hx⟩
   have HB:=Zh hb
   have HX:=Zh hx
   clear hb hx HN HX1
   go_wp2_with fail
   refine (HW.out w1 HB.out true).mono ?_
   rintro e w2 ⟨rfl,hb,hx⟩
   have HB:=Zh hb
   have HX2:=Zh (hx _ _ _ HX.out)
   clear hb hx HW HX
   go_upto_region 2 with fail
   go_wp2_with fail
   refine (HT.out w2 HB.out).mono ?_
   rintro e w3 ⟨rfl,⟨h1,hx⟩,v',h2⟩
   have HX3:=Zh (hx _ _ _ HX2.out)
   have HE:Hid (T1 rb w w3∧RdB w3 rb r en nest v'):=Zh ⟨h1,h2⟩
   clear hx h1 h2 HT HX2 HB
   have HR5:=Zh (Row5.al w3 (Zi 1) (.string (S tx)) (Zi nv) (Zi (tl:Int)) (Zi (tc:Int)))
   have HL:Hid (T1 rb w (w3.alloc (.cells #[Zi 1,.string (S tx),Zi nv,Zi (tl:Int),Zi (tc:Int)] 83))∧RdB (w3.alloc (.cells #[Zi 1,.string (S tx),Zi nv,Zi (tl:Int),Zi (tc:Int)] 83)) rb r en nest v'∧Row3 (w3.alloc (.cells #[Zi 1,.string (S tx),Zi nv,Zi (tl:Int),Zi (tc:Int)] 83)) w.heap.size (Ze) (Zi 0) (Zi 0)):=Zh ⟨HE.out.1.trans (T1.bel (bel_al _ _)),HE.out.2.kept (bel_al _ _),HX3.out.kept (bel_al _ _)⟩
   clear HE HX3
   go_upto_region 3 with fail
   generalize w3.alloc (.cells #[Zi 1,.string (S tx),Zi nv,Zi (tl:Int),Zi (tc:Int)] 83)=W4 at *
   generalize w3.heap.size=B at *
   have HP:Hid (∀v0 v1 v2,Row3 (put3 W4 w.heap.size v0 v1 v2) w.heap.size v0 v1 v2∧T1 rb w (put3 W4 w.heap.size v0 v1 v2)∧RdB (put3 W4 w.heap.size v0 v1 v2) rb r en nest v'):=fun v0 v1 v2=>by
    obtain⟨q1,q2,q3⟩:=HL.out
    have hb:Below w.heap.size W4 (put3 W4 w.heap.size v0 v1 v2):=put3_below (Below.refl _ _) (Nat.le_refl _) v0 v1 v2
    exact⟨q3.put v0 v1 v2,q1.low hb,q2.low hb HRb.out⟩
   have g0:=HL.out.2.2
   have g1:=HR5.out
   obtain⟨⟨x0,x1,x2,x3,x4⟩,_⟩:=g1.cells
   obtain⟨_,y0,y1,y2⟩:=g0.cells
   clear g0 g1 HR5 HL
   go_wp2_with fail
   obtain⟨hr,ht1,hR⟩:=HP.out (.string (S tx)) (Zi (tl:Int)) (Zi (tc:Int))
   obtain⟨⟨d0,d1,d2⟩,_⟩:=hr.cells
   exact bodyPost_ret (v:=.agg #[.string (S tx),Zi (tl:Int),Zi (tc:Int)]) (by simp[results,Tryz.results80,go_sem,d0,d1,d2]) rfl ⟨_,_,rfl,rfl,hR,ht1⟩
 ·rw[if_neg he]
  generalize nxtP en ts=p at *
  generalize nxtN ts=nv at *
  generalize nxtT ts=tx at *
  generalize nxtK ts=kd at *
  obtain⟨pl,pc⟩:=p
  have HN:Hid (Calls Tryz.prog 106 #[Zp rb] W1 fun e w'=>e=.returned (.agg #[Zi (kd:Int),.string (S tx),Zi nv,Zi (pl:Int),Zi (pc:Int)])∧Below w.heap.size w w'∧Row3 w' w.heap.size (Ze) (Zi 0) (Zi 0)):=Zh HN
  have hk:((kd:Int) == 1)=false:=by simp;omega
  clear h he hb1
  go_enter Tryz.func80,Tryz.ntmps80
  go_wp2_with fail
  rw[← hW1]
  clear hW1
  refine HN.out.mono ?_
  rintro e w1 ⟨rfl,hb,_⟩
  have HB:=Zh hb
  clear hb HN
  go_wp2_with fail
  refine (HW.out w1 HB.out false).mono ?_
  rintro e w2 ⟨rfl,hb,_⟩
  exact⟨rfl,rfl,T1.bel hb⟩
def Row7 (W:World) (R:Nat) (v0 v1 v2 v3 v4 v5 v6:Value):Prop:=W.heap[R]? = some (.cells #[v0,v1,v2,v3,v4,v5,v6] 66 (0,0))
theorem Row7.kept {w w':World} {R:Nat} {v0 v1 v2 v3 v4 v5 v6:Value} (h:Row7 w R v0 v1 v2 v3 v4 v5 v6) (hb:Below w.heap.size w w'):Row7 w' R v0 v1 v2 v3 v4 v5 v6:=(hb.block _ (blk_lt h)).trans h
theorem Row7.t1 {sb:Nat} {w w':World} {R:Nat} {v0 v1 v2 v3 v4 v5 v6:Value} (h:Row7 w R v0 v1 v2 v3 v4 v5 v6) (ht:T1 sb w w') (hn:R≠sb):Row7 w' R v0 v1 v2 v3 v4 v5 v6:=(ht.block R (blk_lt h) hn).trans h
theorem Row7.al (U:World) (v0 v1 v2 v3 v4 v5 v6:Value):Row7 (U.alloc (.cells #[v0,v1,v2,v3,v4,v5,v6] 66)) U.heap.size v0 v1 v2 v3 v4 v5 v6:=heap_alloc_new _ _ rfl
theorem Row7.cells {W:World} {R:Nat} {v0 v1 v2 v3 v4 v5 v6:Value} (h:Row7 W R v0 v1 v2 v3 v4 v5 v6):(W.cell? ⟨R,0,none⟩=some v0∧W.cell? ⟨R,1,none⟩=some v1∧W.cell? ⟨R,2,none⟩=some v2∧W.cell? ⟨R,3,none⟩=some v3∧W.cell? ⟨R,4,none⟩=some v4∧W.cell? ⟨R,5,none⟩=some v5∧W.cell? ⟨R,6,none⟩=some v6)∧W.frozen? ⟨R,0,none⟩=false∧W.frozen? ⟨R,1,none⟩=false∧W.frozen? ⟨R,2,none⟩=false∧W.frozen? ⟨R,3,none⟩=false∧W.frozen? ⟨R,4,none⟩=false∧W.frozen? ⟨R,5,none⟩=false∧W.frozen? ⟨R,6,none⟩=false:=by
 unfold Row7 at h
 exact⟨⟨by simp[World.cell?,h],by simp[World.cell?,h],by simp[World.cell?,h],by simp[World.cell?,h],by simp[World.cell?,h],by simp[World.cell?,h],by simp[World.cell?,h]⟩,frozen_of_row W R 0 _ _ h,frozen_of_row W R 1 _ _ h,frozen_of_row W R 2 _ _ h,frozen_of_row W R 3 _ _ h,frozen_of_row W R 4 _ _ h,frozen_of_row W R 5 _ _ h,frozen_of_row W R 6 _ _ h⟩
abbrev put7 (W:World) (R:Nat) (v0 v1 v2 v3 v4 v5 v6:Value):World:=((((((W.setCell ⟨R,0,none⟩ v0).setCell ⟨R,1,none⟩ v1).setCell ⟨R,2,none⟩ v2).setCell ⟨R,3,none⟩ v3).setCell ⟨R,4,none⟩ v4).setCell ⟨R,5,none⟩ v5).setCell ⟨R,6,none⟩ v6
theorem put7_below {C:Nat} {W0 W:World} (hb:Below C W0 W) {R:Nat} (hR:C≤R) (v0 v1 v2 v3 v4 v5 v6:Value):Below C W0 (put7 W R v0 v1 v2 v3 v4 v5 v6):=(((((((hb.setCell (p:=⟨R,0,none⟩) hR v0).setCell (p:=⟨R,1,none⟩) hR v1).setCell (p:=⟨R,2,none⟩) hR v2).setCell (p:=⟨R,3,none⟩) hR v3).setCell (p:=⟨R,4,none⟩) hR v4).setCell (p:=⟨R,5,none⟩) hR v5).setCell (p:=⟨R,6,none⟩) hR v6)
theorem Row7.put {W:World} {R:Nat} {a0 a1 a2 a3 a4 a5 a6:Value} (h:Row7 W R a0 a1 a2 a3 a4 a5 a6) (v0 v1 v2 v3 v4 v5 v6:Value):Row7 (put7 W R v0 v1 v2 v3 v4 v5 v6) R v0 v1 v2 v3 v4 v5 v6:=by
 simp only[put7]
 have h0:Row7 (W.setCell ⟨R,0,none⟩ v0) R v0 a1 a2 a3 a4 a5 a6:=heap_setCell_same _ R 0 _ _ v0 h
 have h1:Row7 ((W.setCell ⟨R,0,none⟩ v0).setCell ⟨R,1,none⟩ v1) R v0 v1 a2 a3 a4 a5 a6:=heap_setCell_same _ R 1 _ _ v1 h0
 generalize (W.setCell ⟨R,0,none⟩ v0).setCell ⟨R,1,none⟩ v1=V at *
 have h2:Row7 (V.setCell ⟨R,2,none⟩ v2) R v0 v1 v2 a3 a4 a5 a6:=heap_setCell_same _ R 2 _ _ v2 h1
 have h3:Row7 ((V.setCell ⟨R,2,none⟩ v2).setCell ⟨R,3,none⟩ v3) R v0 v1 v2 v3 a4 a5 a6:=heap_setCell_same _ R 3 _ _ v3 h2
 generalize (V.setCell ⟨R,2,none⟩ v2).setCell ⟨R,3,none⟩ v3=U at *
 have h4:Row7 (U.setCell ⟨R,4,none⟩ v4) R v0 v1 v2 v3 v4 a5 a6:=heap_setCell_same _ R 4 _ _ v4 h3
 have h5:Row7 ((U.setCell ⟨R,4,none⟩ v4).setCell ⟨R,5,none⟩ v5) R v0 v1 v2 v3 v4 v5 a6:=heap_setCell_same _ R 5 _ _ v5 h4
 exact heap_setCell_same _ R 6 _ _ v6 h5
def OkvF {α:Type} (okv:(Nat→Prop)→α→Value→World→Prop):Prop:=∀P P' x v W W',okv P x v W→(∀k,P k→P' k)→(∀k,P k→k < W.heap.size→W'.heap[k]? = W.heap[k]?)→okv P' x v W'
def New (Q:Nat→Prop) (n:Nat):Nat→Prop:=fun k=>Q k∨n≤k
theorem open_fin {α:Type} {w W2 w3 W5:World} {rb:Nat} {r2:List Tok} {en:Nat × Nat} {nest:Nat} {v2:Value} {okv:(Nat→Prop)→α→Value→World→Prop} {Q:Nat→Prop} {x:α} {a0 a1 a2 a3 a4 a5 a6 z0 z1 z2 z3 z4 z5 z6:Value} (hok:OkvF okv) (hQ:∀k,Q k→k < w.heap.size∧k≠rb) (hrb:rb < w.heap.size) (ht2:T1 rb w W2) (hx2:Row7 W2 w.heap.size z0 z1 z2 z3 z4 z5 z6) (hx:okv (New Q W2.heap.size) x (.agg #[a0,a1,a2,a3,a4,a5,a6]) w3) (hr:RdB w3 rb r2 en (nest+1) v2) (ht:T1 rb W2 w3) (h5:W5=(w3.alloc (.cells #[a0,a1,a2,a3,a4,a5,a6] 66)).setCell ⟨rb,3,none⟩ (Zi (nest:Int))) :
  Row7 W5 w3.heap.size a0 a1 a2 a3 a4 a5 a6∧Row7 W5 w.heap.size z0 z1 z2 z3 z4 z5 z6∧Row7 (put7 W5 w.heap.size a0 a1 a2 a3 a4 a5 a6) w.heap.size a0 a1 a2 a3 a4 a5 a6∧okv (New Q w.heap.size) x (.agg #[a0,a1,a2,a3,a4,a5,a6]) (put7 W5 w.heap.size a0 a1 a2 a3 a4 a5 a6)∧RdB (put7 W5 w.heap.size a0 a1 a2 a3 a4 a5 a6) rb r2 en nest v2∧T1 rb w (put7 W5 w.heap.size a0 a1 a2 a3 a4 a5 a6):=by
 have hl:=blk_lt hx2
 have hb4:Below w3.heap.size w3 (w3.alloc (.cells #[a0,a1,a2,a3,a4,a5,a6] 66)):=bel_al _ _
 obtain⟨hr5,ht5⟩:=(hr.kept hb4).deep nest
 rw[← h5] at hr5 ht5
 have ht35:T1 rb w3 W5:=(T1.bel hb4).trans ht5
 have g1:Row7 W5 w3.heap.size a0 a1 a2 a3 a4 a5 a6:=(Row7.al w3 a0 a1 a2 a3 a4 a5 a6).t1 ht5 (by have:=ht.size;omega)
 have g0:Row7 W5 w.heap.size z0 z1 z2 z3 z4 z5 z6:=hx2.t1 (ht.trans ht35) (by omega)
 have hp:Below w.heap.size W5 (put7 W5 w.heap.size a0 a1 a2 a3 a4 a5 a6):=put7_below (Below.refl _ _) (Nat.le_refl _) _ _ _ _ _ _ _
 refine⟨g1,g0,g0.put _ _ _ _ _ _ _,?_,hr5.low hp hrb,(ht2.trans (ht.trans ht35)).low hp⟩
 refine hok _ _ _ _ _ _ hx (fun k hk=>?_) (fun k hk hlt=>?_)
 ·rcases hk with hk | hk
  ·exact .inl hk
  ·exact .inr (by omega)
 ·have hk1:k≠w.heap.size:=by
   rcases hk with hk | hk
   ·have:=(hQ k hk).1;omega
   ·omega
  have hk2:k≠rb:=by
   rcases hk with hk | hk
   ·exact (hQ k hk).2
   ·omega
  have e1:(put7 W5 w.heap.size a0 a1 a2 a3 a4 a5 a6).heap[k]? = W5.heap[k]?:=by
   simp only[put7]
   rw[heap_setCell_other _ _ _ _ hk1,heap_setCell_other _ _ _ _ hk1,heap_setCell_other _ _ _ _ hk1,heap_setCell_other _ _ _ _ hk1,heap_setCell_other _ _ _ _ hk1,heap_setCell_other _ _ _ _ hk1,heap_setCell_other _ _ _ _ hk1]
  exact e1.trans (ht35.block k hlt hk2)
theorem openedE_any {α:Type} (w:World) (rb:Nat) (ts:List Tok) (en:Nat × Nat) (nest:Nat) (v:Value) (h:RdB w rb ts en nest v) (hts:ts≠[]) (hn:nest≤200) (fn:Nat) (hen:∀args w,(callFunc fn args).run Tryz.prog w=.ok (.enter fn args) w) (first caps:Array Value) (inner:Nat→List Tok→PR α) (okv:(Nat→Prop)→α→Value→World→Prop) (Q:Nat→Prop) (hQ:∀k,Q k→k < w.heap.size∧k≠rb) (hok:OkvF okv) (hsh:∀P x v W,okv P x v W→∃(k o n l c:Int) (s:ByteArray) (ao:Option Addr) (q qc:Nat),v=.agg #[Zi k,Zi o,Zi n,.string s,.slice ao q qc,Zi l,Zi c])
  (HI:nest≠200→∀U v',T1 rb w U→RdB U rb ts.tail en (nest+1) v'→Calls Tryz.prog fn (first ++ caps) U (PrP U rb en (nest+1) (inner (nest+1) ts.tail) (okv (New Q U.heap.size)))) :
  Calls Tryz.prog 131 #[Zp rb,.func (.func fn) first caps] w (PrP w rb en nest (pOpen en nest ts inner) (okv (New Q w.heap.size))):=by
 cases ts with
 | nil=>exact absurd rfl hts
 | cons t r=>
 have hrb:=blk_lt h.box
 obtain⟨W1,hW1⟩:=nm (w.alloc (.cells #[Zi 0,Zi 0,Zi 0,Ze,Zn,Zi 0,Zi 0] 66))
 have hb1:Below w.heap.size w W1:=by rw[hW1];exact bel_al _ _
 have HX1:Hid (Row7 W1 w.heap.size (Zi 0) (Zi 0) (Zi 0) (Ze) (Zn) (Zi 0) (Zi 0)):=by show Row7 _ _ _ _ _ _ _ _ _;rw[hW1];exact Row7.al _ _ _ _ _ _ _ _
 have hr1:=h.kept hb1
 obtain⟨⟨_,_,_,c3⟩,_⟩:=hr1.cells
 have HRb:=Zh hrb
 unfold pOpen
 rw[List.tail_cons] at HI ⊢
 by_cases he:nest=200
 ·rw[if_pos he]
  subst he
  have HG:Hid (Calls Tryz.prog 110 #[Zp rb,Zi 182] W1 fun e w'=>e=.panicked (fltS (nxtP en (t :: r)) 182)∧Below w.heap.size w w'):=(giveUpS_any W1 rb (t :: r) en 200 v 182 hr1).mono fun e w' q=>⟨q.1,hb1.trans (q.2.mono hb1.size)⟩
  clear h hr1 HI hok hsh hrb hb1
  go_enter Tryz.func131,Tryz.ntmps131
  go_upto_region 1 with fail
  rw[← hW1]
  clear hW1
  go_wp2_with fail
  refine HG.out.mono ?_
  rintro e w1 ⟨rfl,hb⟩
  exact⟨rfl,rfl,T1.bel hb⟩
 ·rw[if_neg he]
  have HI:=HI he
  have hnb:((nest:Int) == 200)=false:=by simp;omega
  have HT:Hid (Calls Tryz.prog 79 #[Zp rb] W1 fun e w'=>e=.returned (tkV t.1 t.2.1 t.2.2.1 t.2.2.2)∧Row7 w' w.heap.size (Zi 0) (Zi 0) (Zi 0) (Ze) (Zn) (Zi 0) (Zi 0)∧T1 rb w w'∧∃v',RdB w' rb r en nest v'):=(take_any W1 rb t r en nest v hr1).mono fun e w' q=>⟨q.1,HX1.out.t1 q.2.1 (by omega),(T1.bel hb1).trans q.2.1,q.2.2⟩
  generalize inner (nest+1) r=R at *
  have HI:=Zh HI
  have HQ:=Zh hQ
  have HOk:=Zh hok
  have HSh:=Zh hsh
  clear h hr1 hok hsh hrb hb1 he HX1 hQ
  go_enter Tryz.func131,Tryz.ntmps131
  go_upto_region 1 with fail
  rw[← hW1]
  clear hW1
  go_wp2_with fail
  refine HT.out.mono ?_
  rintro e w1 ⟨rfl,hx,ht,v1,hr⟩
  obtain⟨⟨_,_,_,e3⟩,_,ef⟩:=hr.cells
  have HX1:=Zh hx
  have HTr:=Zh ht
  have HR1:=Zh hr
  clear hx ht hr HT c3
  go_upto_region 5 with fail
  have hc:(nest:Int)+1=((nest+1:Nat):Int):=by omega
  rw[hc]
  obtain⟨hr2,ht2⟩:=HR1.out.deep (nest+1)
  have HR2:=Zh hr2
  have HT2:=Zh (HTr.out.trans ht2)
  have HX2:=Zh (HX1.out.t1 ht2 (by have:=HRb.out;omega))
  clear hr2 ht2 HX1 HTr HR1 hc e3 ef
  generalize w1.setCell ⟨rb,3,none⟩ (Zi ((nest+1:Nat):Int))=W2 at *
  generalize ((nest+1:Nat):Int)=n1 at *
  go_wp2_with fail
  refine (HI.out W2 v1 HT2.out HR2.out).mono ?_
  clear hen HI
  cases R with
  | er p x=>
   rintro e w3 ⟨rfl,ht⟩
   exact⟨rfl,rfl,HT2.out.trans ht⟩
  | ok x r2=>
   rintro e w3 ⟨vv,v2,rfl,hx,hr,ht⟩
   obtain⟨k,o,n,l,c,s,ao,q,qc,rfl⟩:=HSh.out _ _ _ _ hx
   have HF:=Zh (open_fin (W5:=(w3.alloc (.cells #[Zi k,Zi o,Zi n,.string s,.slice ao q qc,Zi l,Zi c] 66)).setCell ⟨rb,3,none⟩ (Zi (nest:Int))) HOk.out HQ.out HRb.out HT2.out HX2.out hx hr ht rfl)
   obtain⟨⟨_,_,_,e3⟩,_,ef⟩:=(hr.kept (bel_al w3 (.cells #[Zi k,Zi o,Zi n,.string s,.slice ao q qc,Zi l,Zi c] 66))).cells
   have hc2:((nest+1:Nat):Int)=(nest:Int)+1:=by omega
   rw[hc2] at e3
   have hn1:(nest:Int)+1 - 1=nest:=by omega
   clear hx hr ht HSh HOk HQ HX2 HT2 HR2 hc2 HI
   go_upto_region 7 with fail
   obtain⟨g1,g0,gf,hx,hr,ht⟩:=HF.out
   clear HF e3 ef hn1
   generalize (w3.alloc (.cells #[Zi k,Zi o,Zi n,.string s,.slice ao q qc,Zi l,Zi c] 66)).setCell ⟨rb,3,none⟩ (Zi (nest:Int))=W5 at *
   generalize w3.heap.size=B at *
   have HE:=Zh (⟨_,_,rfl,hx,hr,ht⟩:PrP w rb en nest (PR.ok x r2) (okv (New Q w.heap.size)) (.returned (.agg #[Zi k,Zi o,Zi n,.string s,.slice ao q qc,Zi l,Zi c])) (put7 W5 w.heap.size (Zi k) (Zi o) (Zi n) (.string s) (.slice ao q qc) (Zi l) (Zi c)))
   have GF:=Zh gf
   obtain⟨⟨x0,x1,x2,x3,x4,x5,x6⟩,_⟩:=g1.cells
   obtain⟨_,y0,y1,y2,y3,y4,y5,y6⟩:=g0.cells
   clear g0 g1 gf hx hr ht
   go_wp2_with fail
   obtain⟨⟨d0,d1,d2,d3,d4,d5,d6⟩,_⟩:=GF.out.cells
   exact bodyPost_ret (v:=.agg #[Zi k,Zi o,Zi n,.string s,.slice ao q qc,Zi l,Zi c]) (by simp[results,Tryz.results131,go_sem,d0,d1,d2,d3,d4,d5,d6]) rfl HE.out
theorem box_fin {α:Type} {w W2 w3 W5:World} {rb:Nat} {r2:List Tok} {en:Nat × Nat} {nest:Nat} {v2:Value} {okv:(Nat→Prop)→α→Value→World→Prop} {Q:Nat→Prop} {x:α} {a0 a1 a2 a3 a4 a5 a6 z0 z1 z2 z3 z4 z5 z6:Value} (hok:OkvF okv) (hQ:∀k,Q k→k < w.heap.size∧k≠rb) (hrb:rb < w.heap.size) (ht2:T1 rb w W2) (hx2:Row7 W2 w.heap.size z0 z1 z2 z3 z4 z5 z6) (hx:okv (New Q W2.heap.size) x (.agg #[a0,a1,a2,a3,a4,a5,a6]) w3) (ht:T1 rb W2 w3) (ht5:T1 rb (w3.alloc (.cells #[a0,a1,a2,a3,a4,a5,a6] 66)) W5) (hr5:RdB W5 rb r2 en nest v2) :
  Row7 W5 w3.heap.size a0 a1 a2 a3 a4 a5 a6∧Row7 W5 w.heap.size z0 z1 z2 z3 z4 z5 z6∧Row7 (put7 W5 w.heap.size a0 a1 a2 a3 a4 a5 a6) w.heap.size a0 a1 a2 a3 a4 a5 a6∧PrP w rb en nest (PR.ok x r2) (okv (New Q w.heap.size)) (.returned (.agg #[a0,a1,a2,a3,a4,a5,a6])) (put7 W5 w.heap.size a0 a1 a2 a3 a4 a5 a6):=by
 have hl:=blk_lt hx2
 have hb4:Below w3.heap.size w3 (w3.alloc (.cells #[a0,a1,a2,a3,a4,a5,a6] 66)):=bel_al _ _
 have ht35:T1 rb w3 W5:=(T1.bel hb4).trans ht5
 have g1:Row7 W5 w3.heap.size a0 a1 a2 a3 a4 a5 a6:=(Row7.al w3 a0 a1 a2 a3 a4 a5 a6).t1 ht5 (by have:=ht.size;omega)
 have g0:Row7 W5 w.heap.size z0 z1 z2 z3 z4 z5 z6:=hx2.t1 (ht.trans ht35) (by omega)
 have hp:Below w.heap.size W5 (put7 W5 w.heap.size a0 a1 a2 a3 a4 a5 a6):=put7_below (Below.refl _ _) (Nat.le_refl _) _ _ _ _ _ _ _
 refine⟨g1,g0,g0.put _ _ _ _ _ _ _,_,_,rfl,?_,hr5.low hp hrb,(ht2.trans (ht.trans ht35)).low hp⟩
 refine hok _ _ _ _ _ _ hx (fun k hk=>?_) (fun k hk hlt=>?_)
 ·rcases hk with hk | hk
  ·exact .inl hk
  ·exact .inr (by omega)
 ·have hk1:k≠w.heap.size:=by
   rcases hk with hk | hk
   ·have:=(hQ k hk).1;omega
   ·omega
  have hk2:k≠rb:=by
   rcases hk with hk | hk
   ·exact (hQ k hk).2
   ·omega
  have e1:(put7 W5 w.heap.size a0 a1 a2 a3 a4 a5 a6).heap[k]? = W5.heap[k]?:=by
   simp only[put7]
   rw[heap_setCell_other _ _ _ _ hk1,heap_setCell_other _ _ _ _ hk1,heap_setCell_other _ _ _ _ hk1,heap_setCell_other _ _ _ _ hk1,heap_setCell_other _ _ _ _ hk1,heap_setCell_other _ _ _ _ hk1,heap_setCell_other _ _ _ _ hk1]
  exact e1.trans (ht35.block k hlt hk2)
def Agg7 {α:Type} (okv:(Nat→Prop)→α→Value→World→Prop):Prop:=∀P x v W,okv P x v W→∃(k o n l c:Int) (s:ByteArray) (ao:Option Addr) (q qc:Nat),v=.agg #[Zi k,Zi o,Zi n,.string s,.slice ao q qc,Zi l,Zi c]
theorem bracketedE_any {α:Type} (w:World) (rb:Nat) (ts:List Tok) (en:Nat × Nat) (nest:Nat) (v:Value) (h:RdB w rb ts en nest v) (s1 s2:List UInt8) (hs1:s1≠[]) (hs2:s2≠[]) (hn:nest≤200) (fn:Nat) (hen:∀args w,(callFunc fn args).run Tryz.prog w=.ok (.enter fn args) w) (first caps:Array Value) (inner:Nat→List Tok→PR α) (okv:(Nat→Prop)→α→Value→World→Prop) (Q:Nat→Prop) (hQ:∀k,Q k→k < w.heap.size∧k≠rb) (hok:OkvF okv) (hsh:Agg7 okv)
  (HI:nxtT ts=s1→nest≠200→∀U v',T1 rb w U→RdB U rb ts.tail en (nest+1) v'→Calls Tryz.prog fn (first ++ caps) U (PrP U rb en (nest+1) (inner (nest+1) ts.tail) (okv (New Q U.heap.size)))) :
  Calls Tryz.prog 151 #[Zp rb,.string (S s1),.string (S s2),.func (.func fn) first caps] w (PrP w rb en nest (pBr en nest s1 s2 ts inner) (okv (New Q w.heap.size))):=by
 have hrb:=blk_lt h.box
 obtain⟨W1,hW1⟩:=nm (w.alloc (.cells #[Zi 0,Zi 0,Zi 0,Ze,Zn,Zi 0,Zi 0] 66))
 have hb1:Below w.heap.size w W1:=by rw[hW1];exact bel_al _ _
 have HX1:Row7 W1 w.heap.size (Zi 0) (Zi 0) (Zi 0) (Ze) (Zn) (Zi 0) (Zi 0):=by rw[hW1];exact Row7.al _ _ _ _ _ _ _ _
 have HS1:Hid (w.heap.size < W1.heap.size):=blk_lt HX1
 have HRb:=Zh hrb
 have hr1:=h.kept hb1
 have HC:=(comes_any W1 rb ts en nest v s1 hr1).mono fun e w' q=>(⟨q.1,q.2⟩:e=.returned (.bool (decide (nxtT ts=s1)))∧Below W1.heap.size W1 w')
 have HW:Hid (∀U,Below W1.heap.size W1 U→∀b,Calls Tryz.prog 82 #[Zp rb,.bool b] U fun e w'=>e=(if b then .returned (.tuple #[]) else .panicked (fltS (nxtP en ts) 181))∧Below W1.heap.size W1 w'):=fun U hU b=>(want_any U rb ts en nest v b (hr1.kept hU)).mono fun e w' q=>⟨q.1,hU.trans (q.2.mono hU.size)⟩
 unfold pBr
 by_cases he:nxtT ts=s1
 ·rw[decide_eq_true he] at HC
  rw[if_pos he]
  have hts:ts≠[]:=fun hc=>hs1 (by rw[← he,hc];rfl)
  have HO:Hid (∀U,Below W1.heap.size W1 U→Calls Tryz.prog 131 #[Zp rb,.func (.func fn) first caps] U (PrP U rb en nest (pOpen en nest ts inner) (okv (New Q U.heap.size)))):=fun U hU=>openedE_any U rb ts en nest v (hr1.kept hU) hts hn fn hen first caps inner okv Q (fun k hk=>⟨Nat.lt_of_lt_of_le (hQ k hk).1 (Nat.le_trans hb1.size hU.size),(hQ k hk).2⟩) hok hsh (fun hn V v' hV=>HI he hn V v' ((T1.bel hb1).trans ((T1.bel hU).trans hV)))
  have HM:Hid (∀U r nest v',RdB U rb r en nest v'→Calls Tryz.prog 46 #[Zp rb,.string (S s2)] U (PrP U rb en nest (pMust en s2 r) fun _ v _=>v=.tuple #[])):=fun U r nest v' hv=>must_any U rb r en nest v' s2 hs2 hv
  have HB1:=Zh hb1
  have HQ:=Zh hQ
  have HOk:=Zh hok
  have HSh:=Zh hsh
  have HC:=Zh HC
  have HX:=Zh HX1
  generalize pOpen en nest ts inner=R at *
  generalize hm:(fun (x:α) (r:List Tok)=>(pMust en s2 r).bind fun _ r2=>PR.ok x r2)=ff at *
  have Hm:=Zh hm
  clear h hr1 hb1 he HX1 hQ hok hsh HI hs1 hs2 hrb hts hm
  generalize S s1=u1 at *
  generalize S s2=u2 at *
  go_enter Tryz.func151,Tryz.ntmps151
  go_upto_region 1 with fail
  rw[← hW1]
  clear hW1
  go_wp2_with fail
  refine HC.out.mono ?_
  rintro e w1 ⟨rfl,hb⟩
  have HB:=Zh hb
  clear hb HC
  go_wp2_with fail
  refine (HW.out w1 HB.out true).mono ?_
  rintro e w2 ⟨rfl,hb⟩
  have HB:=Zh hb
  clear hb HW
  go_upto_region 2 with fail
  go_wp2_with fail
  refine (HO.out w2 HB.out).mono ?_
  clear hen HO
  have HT2:Hid (T1 rb w w2):=(T1.bel HB1.out).trans (T1.bel HB.out)
  have HX2:=Zh (HX.out.kept HB.out)
  clear HB HB1 HX
  cases R with
  | er p x=>
   rintro e w3 ⟨rfl,ht⟩
   exact⟨rfl,rfl,HT2.out.trans ht⟩
  | ok x r2=>
   rintro e w3 ⟨vv,v2,rfl,hx,hr,ht⟩
   obtain⟨k,o,n,l,c,s,ao,q,qc,rfl⟩:=HSh.out _ _ _ _ hx
   have HX3:=Zh hx
   have HT3:=Zh ht
   have HR4:=Zh (hr.kept (bel_al w3 (.cells #[Zi k,Zi o,Zi n,.string s,.slice ao q qc,Zi l,Zi c] 66)))
   have HM4:=Zh (HM.out _ r2 nest v2 HR4.out)
   have hf:(PR.ok x r2).bind ff=(pMust en s2 r2).bind fun _ r3=>PR.ok x r3:=by rw[PR.bind_ok,← Hm.out]
   have HF0:=Zh hf
   clear hx ht hr HM hf Hm HR4 HSh
   generalize pMust en s2 r2=M at *
   go_upto_region 3 with fail
   go_wp2_with fail
   refine HM4.out.mono ?_
   clear HM4
   cases M with
   | er p x=>
    rintro e w5 ⟨rfl,ht⟩
    refine⟨rfl,?_⟩
    rw[HF0.out]
    exact⟨rfl,HT2.out.trans (HT3.out.trans ((T1.bel (bel_al _ _)).trans ht))⟩
   | ok y r3=>
    rintro e w5 ⟨_,v3,rfl,rfl,hr5,ht5⟩
    have HF:=Zh (box_fin HOk.out HQ.out HRb.out HT2.out HX2.out HX3.out HT3.out ht5 hr5)
    clear hr5 ht5 HT2 HT3 HX2 HX3 HOk HQ HRb
    go_upto_region 4 with fail
    obtain⟨g1,g0,gf,hp⟩:=HF.out
    clear HF
    generalize w3.heap.size=B at *
    have HE:=Zh hp
    have GF:=Zh gf
    obtain⟨⟨x0,x1,x2,x3,x4,x5,x6⟩,_⟩:=g1.cells
    obtain⟨_,y0,y1,y2,y3,y4,y5,y6⟩:=g0.cells
    clear g0 g1 gf hp
    go_wp2_with fail
    obtain⟨⟨d0,d1,d2,d3,d4,d5,d6⟩,_⟩:=GF.out.cells
    exact bodyPost_ret (v:=.agg #[Zi k,Zi o,Zi n,.string s,.slice ao q qc,Zi l,Zi c]) (by simp[results,Tryz.results151,go_sem,d0,d1,d2,d3,d4,d5,d6]) rfl (by rw[HF0.out];exact HE.out)
 ·rw[decide_eq_false he] at HC
  rw[if_neg he]
  have HB1:=Zh hb1
  have HC:=Zh HC
  clear h hr1 hb1 he HX1 hQ hok hsh HI hs1 hs2 hrb HS1 hen
  generalize S s1=u1 at *
  generalize S s2=u2 at *
  go_enter Tryz.func151,Tryz.ntmps151
  go_upto_region 1 with fail
  rw[← hW1]
  clear hW1
  go_wp2_with fail
  refine HC.out.mono ?_
  rintro e w1 ⟨rfl,hb⟩
  have HB:=Zh hb
  clear hb HC
  go_wp2_with fail
  refine (HW.out w1 HB.out false).mono ?_
  rintro e w2 ⟨rfl,hb⟩
  exact⟨rfl,rfl,(T1.bel HB1.out).trans (T1.bel hb)⟩
end Go.Proofs.YtlfooogmoigpfaaGreatDoor
