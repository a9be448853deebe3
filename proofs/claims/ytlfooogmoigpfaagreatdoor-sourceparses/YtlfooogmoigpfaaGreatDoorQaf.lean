import Derived.Test.YtlfooogmoigpfaaGreatDoorQae
import Derived.Deep.MidRow
import Derived.Test.YtlfooogmoigpfaaGreatDoorQad
import Derived.Test.YtlfooogmoigpfaaGreatDoorQaa
set_option maxRecDepth 100000
set_option maxHeartbeats 8000000
namespace Go.Proofs.YtlfooogmoigpfaaGreatDoor
open Go.RowKit Go.Sort Go.Shelf
def AggS {α:Type} (okv:(Nat→Prop)→α→Value→World→Prop):Prop:=∀P x v W,okv P x v W→∃(ao:Option Addr) (q qc:Nat),v=.slice ao q qc
theorem okv_t1 {α:Type} {w W2 w3 W5:World} {rb:Nat} {okv:(Nat→Prop)→α→Value→World→Prop} {Q:Nat→Prop} {x:α} {v:Value} (hok:OkvF okv) (hQ:∀k,Q k→k < w.heap.size∧k≠rb) (hrb:rb < w.heap.size) (hs:w.heap.size≤W2.heap.size) (hx:okv (New Q W2.heap.size) x v w3) (ht:T1 rb w3 W5):okv (New Q w.heap.size) x v W5:=by
 refine hok _ _ _ _ _ _ hx (fun k hk=>?_) (fun k hk hlt=>?_)
 ·rcases hk with hk | hk
  ·exact .inl hk
  ·exact .inr (by omega)
 ·refine ht.block k hlt ?_
  rcases hk with hk | hk
  ·exact (hQ k hk).2
  ·omega
theorem openedEs_any {α:Type} (w:World) (rb:Nat) (ts:List Tok) (en:Nat × Nat) (nest:Nat) (v:Value) (h:RdB w rb ts en nest v) (hts:ts≠[]) (hn:nest≤200) (fn:Nat) (hen:∀args w,(callFunc fn args).run Tryz.prog w=.ok (.enter fn args) w) (first caps:Array Value) (inner:Nat→List Tok→PR α) (okv:(Nat→Prop)→α→Value→World→Prop) (Q:Nat→Prop) (hQ:∀k,Q k→k < w.heap.size∧k≠rb) (hok:OkvF okv) (hsh:AggS okv)
  (HI:nest≠200→∀U v',T1 rb w U→RdB U rb ts.tail en (nest+1) v'→Calls Tryz.prog fn (first ++ caps) U (PrP U rb en (nest+1) (inner (nest+1) ts.tail) (okv (New Q U.heap.size)))) :
  Calls Tryz.prog 180 #[Zp rb,.func (.func fn) first caps] w (PrP w rb en nest (pOpen en nest ts inner) (okv (New Q w.heap.size))):=by
 cases ts with
 | nil=>exact absurd rfl hts
 | cons t r=>
 have hrb:=blk_lt h.box
 obtain⟨⟨_,_,_,c3⟩,_⟩:=h.cells
 have HRb:=Zh hrb
 unfold pOpen
 rw[List.tail_cons] at HI ⊢
 by_cases he:nest=200
 ·rw[if_pos he]
  subst he
  have HG:=Zh (giveUpS_any w rb (t :: r) en 200 v 182 h)
  clear h HI hok hsh hrb
  go_enter Tryz.func180,Tryz.ntmps180
  go_wp2_with fail
  refine HG.out.mono ?_
  rintro e w1 ⟨rfl,hb⟩
  exact⟨rfl,rfl,T1.bel hb⟩
 ·rw[if_neg he]
  have HI:=HI he
  have hnb:((nest:Int) == 200)=false:=by simp;omega
  have HT:=Zh (take_any w rb t r en nest v h)
  generalize inner (nest+1) r=R at *
  have HI:=Zh HI
  have HQ:=Zh hQ
  have HOk:=Zh hok
  have HSh:=Zh hsh
  clear h hok hsh hrb he hQ
  go_enter Tryz.func180,Tryz.ntmps180
  go_wp2_with fail
  refine HT.out.mono ?_
  rintro e w1 ⟨rfl,ht,v1,hr⟩
  obtain⟨⟨_,_,_,e3⟩,_,ef⟩:=hr.cells
  have HTr:=Zh ht
  have HR1:=Zh hr
  clear ht hr HT c3
  go_upto_region 5 with fail
  have hc:(nest:Int)+1=((nest+1:Nat):Int):=by omega
  rw[hc]
  obtain⟨hr2,ht2⟩:=HR1.out.deep (nest+1)
  have HR2:=Zh hr2
  have HT2:=Zh (HTr.out.trans ht2)
  clear hr2 ht2 HTr HR1 hc e3 ef
  generalize w1.setCell ⟨rb,3,none⟩ (Zi ((nest+1:Nat):Int))=W2 at *
  generalize ((nest+1:Nat):Int)=n1 at *
  go_wp2_with fail
  refine (HI.out W2 v1 HT2.out HR2.out).mono ?_
  clear hen HI
  cases R with
  | er p x=>
   rintro e w3 ⟨rfl,ht⟩
   exact⟨rfl,rfl,HT2.out.trans ht⟩
  | ok x r2=>
   rintro e w3 ⟨vv,v2,rfl,hx,hr,ht⟩
   obtain⟨ao,q,qc,rfl⟩:=HSh.out _ _ _ _ hx
   obtain⟨⟨_,_,_,e3⟩,_,ef⟩:=hr.cells
   obtain⟨hr5,ht5⟩:=hr.deep nest
   have HE:=Zh (⟨_,_,rfl,okv_t1 HOk.out HQ.out HRb.out HT2.out.size hx ht5,hr5,HT2.out.trans (ht.trans ht5)⟩:PrP w rb en nest (PR.ok x r2) (okv (New Q w.heap.size)) (.returned (.slice ao q qc)) (w3.setCell ⟨rb,3,none⟩ (Zi (nest:Int))))
   have hc2:((nest+1:Nat):Int)=(nest:Int)+1:=by omega
   rw[hc2] at e3
   have hn1:(nest:Int)+1 - 1=nest:=by omega
   clear hx hr ht HSh HOk HQ HT2 HR2 hc2 hr5 ht5
   go_wp2_with fail
   exact bodyPost_ret (v:=.slice ao q qc) (by simp[results,Tryz.results180,go_sem]) rfl HE.out
theorem bracketedEs_any {α:Type} (w:World) (rb:Nat) (ts:List Tok) (en:Nat × Nat) (nest:Nat) (v:Value) (h:RdB w rb ts en nest v) (s1 s2:List UInt8) (hs1:s1≠[]) (hs2:s2≠[]) (hn:nest≤200) (fn:Nat) (hen:∀args w,(callFunc fn args).run Tryz.prog w=.ok (.enter fn args) w) (first caps:Array Value) (inner:Nat→List Tok→PR α) (okv:(Nat→Prop)→α→Value→World→Prop) (Q:Nat→Prop) (hQ:∀k,Q k→k < w.heap.size∧k≠rb) (hok:OkvF okv) (hsh:AggS okv)
  (HI:nxtT ts=s1→nest≠200→∀U v',T1 rb w U→RdB U rb ts.tail en (nest+1) v'→Calls Tryz.prog fn (first ++ caps) U (PrP U rb en (nest+1) (inner (nest+1) ts.tail) (okv (New Q U.heap.size)))) :
  Calls Tryz.prog 172 #[Zp rb,.string (S s1),.string (S s2),.func (.func fn) first caps] w (PrP w rb en nest (pBr en nest s1 s2 ts inner) (okv (New Q w.heap.size))):=by
 have hrb:=blk_lt h.box
 have HRb:=Zh hrb
 have HC:=comes_any w rb ts en nest v s1 h
 have HW:Hid (∀U,Below w.heap.size w U→∀b,Calls Tryz.prog 82 #[Zp rb,.bool b] U fun e w'=>e=(if b then .returned (.tuple #[]) else .panicked (fltS (nxtP en ts) 181))∧Below w.heap.size w w'):=fun U hU b=>(want_any U rb ts en nest v b (h.kept hU)).mono fun e w' q=>⟨q.1,hU.trans (q.2.mono hU.size)⟩
 unfold pBr
 by_cases he:nxtT ts=s1
 ·rw[decide_eq_true he] at HC
  rw[if_pos he]
  have hts:ts≠[]:=fun hc=>hs1 (by rw[← he,hc];rfl)
  have HO:Hid (∀U,Below w.heap.size w U→Calls Tryz.prog 180 #[Zp rb,.func (.func fn) first caps] U (PrP U rb en nest (pOpen en nest ts inner) (okv (New Q U.heap.size)))):=fun U hU=>openedEs_any U rb ts en nest v (h.kept hU) hts hn fn hen first caps inner okv Q (fun k hk=>⟨Nat.lt_of_lt_of_le (hQ k hk).1 hU.size,(hQ k hk).2⟩) hok hsh (fun hn V v' hV=>HI he hn V v' ((T1.bel hU).trans hV))
  have HM:Hid (∀U r nest v',RdB U rb r en nest v'→Calls Tryz.prog 46 #[Zp rb,.string (S s2)] U (PrP U rb en nest (pMust en s2 r) fun _ v _=>v=.tuple #[])):=fun U r nest v' hv=>must_any U rb r en nest v' s2 hs2 hv
  have HQ:=Zh hQ
  have HOk:=Zh hok
  have HSh:=Zh hsh
  have HC:=Zh HC
  generalize pOpen en nest ts inner=R at *
  generalize hm:(fun (x:α) (r:List Tok)=>(pMust en s2 r).bind fun _ r2=>PR.ok x r2)=ff at *
  have Hm:=Zh hm
  clear h he hQ hok hsh HI hs1 hs2 hrb hts hm
  generalize S s1=u1 at *
  generalize S s2=u2 at *
  go_enter Tryz.func172,Tryz.ntmps172
  go_wp2_with fail
  refine HC.out.mono ?_
  rintro e w1 ⟨rfl,hb⟩
  have HB:=Zh hb
  clear hb HC
  go_wp2_with fail
  refine (HW.out w1 HB.out true).mono ?_
  rintro e w2 ⟨rfl,hb⟩
  have HB:=Zh hb
  clear hb HW
  go_wp2_with fail
  refine (HO.out w2 HB.out).mono ?_
  clear hen HO
  have HT2:Hid (T1 rb w w2):=T1.bel HB.out
  clear HB
  cases R with
  | er p x=>
   rintro e w3 ⟨rfl,ht⟩
   exact⟨rfl,rfl,HT2.out.trans ht⟩
  | ok x r2=>
   rintro e w3 ⟨vv,v2,rfl,hx,hr,ht⟩
   obtain⟨ao,q,qc,rfl⟩:=HSh.out _ _ _ _ hx
   have HX3:=Zh hx
   have HT3:=Zh ht
   have HM4:=Zh (HM.out _ r2 nest v2 hr)
   have hf:(PR.ok x r2).bind ff=(pMust en s2 r2).bind fun _ r3=>PR.ok x r3:=by rw[PR.bind_ok,← Hm.out]
   have HF0:=Zh hf
   clear hx ht hr HM hf Hm HSh
   generalize pMust en s2 r2=M at *
   go_wp2_with fail
   refine HM4.out.mono ?_
   clear HM4
   cases M with
   | er p x=>
    rintro e w5 ⟨rfl,ht⟩
    refine⟨rfl,?_⟩
    rw[HF0.out]
    exact⟨rfl,HT2.out.trans (HT3.out.trans ht)⟩
   | ok y r3=>
    rintro e w5 ⟨_,v3,rfl,rfl,hr5,ht5⟩
    have HE:=Zh (⟨_,_,rfl,okv_t1 HOk.out HQ.out HRb.out HT2.out.size HX3.out ht5,hr5,HT2.out.trans (HT3.out.trans ht5)⟩:PrP w rb en nest (PR.ok x r3) (okv (New Q w.heap.size)) (.returned (.slice ao q qc)) w5)
    clear hr5 ht5 HT2 HT3 HX3 HOk HQ HRb
    go_wp2_with fail
    exact bodyPost_ret (v:=.slice ao q qc) (by simp[results,Tryz.results172,go_sem]) rfl (by rw[HF0.out];exact HE.out)
 ·rw[decide_eq_false he] at HC
  rw[if_neg he]
  have HC:=Zh HC
  clear h he hQ hok hsh HI hs1 hs2 hrb hen
  generalize S s1=u1 at *
  generalize S s2=u2 at *
  go_enter Tryz.func172,Tryz.ntmps172
  go_wp2_with fail
  refine HC.out.mono ?_
  rintro e w1 ⟨rfl,hb⟩
  have HB:=Zh hb
  clear hb HC
  go_wp2_with fail
  refine (HW.out w1 HB.out false).mono ?_
  rintro e w2 ⟨rfl,hb⟩
  exact⟨rfl,rfl,T1.bel hb⟩
theorem openedSs_any {α:Type} (w:World) (rb:Nat) (ts:List Tok) (en:Nat × Nat) (nest:Nat) (v:Value) (h:RdB w rb ts en nest v) (hts:ts≠[]) (hn:nest≤200) (fn:Nat) (hen:∀args w,(callFunc fn args).run Tryz.prog w=.ok (.enter fn args) w) (first caps:Array Value) (inner:Nat→List Tok→PR α) (okv:(Nat→Prop)→α→Value→World→Prop) (Q:Nat→Prop) (hQ:∀k,Q k→k < w.heap.size∧k≠rb) (hok:OkvF okv) (hsh:AggS okv)
  (HI:nest≠200→∀U v',T1 rb w U→RdB U rb ts.tail en (nest+1) v'→Calls Tryz.prog fn (first ++ caps) U (PrP U rb en (nest+1) (inner (nest+1) ts.tail) (okv (New Q U.heap.size)))) :
  Calls Tryz.prog 133 #[Zp rb,.func (.func fn) first caps] w (PrP w rb en nest (pOpen en nest ts inner) (okv (New Q w.heap.size))):=by
 cases ts with
 | nil=>exact absurd rfl hts
 | cons t r=>
 have hrb:=blk_lt h.box
 obtain⟨⟨_,_,_,c3⟩,_⟩:=h.cells
 have HRb:=Zh hrb
 unfold pOpen
 rw[List.tail_cons] at HI ⊢
 by_cases he:nest=200
 ·rw[if_pos he]
  subst he
  have HG:=Zh (giveUpS_any w rb (t :: r) en 200 v 182 h)
  clear h HI hok hsh hrb
  go_enter Tryz.func133,Tryz.ntmps133
  go_wp2_with fail
  refine HG.out.mono ?_
  rintro e w1 ⟨rfl,hb⟩
  exact⟨rfl,rfl,T1.bel hb⟩
 ·rw[if_neg he]
  have HI:=HI he
  have hnb:((nest:Int) == 200)=false:=by simp;omega
  have HT:=Zh (take_any w rb t r en nest v h)
  generalize inner (nest+1) r=R at *
  have HI:=Zh HI
  have HQ:=Zh hQ
  have HOk:=Zh hok
  have HSh:=Zh hsh
  clear h hok hsh hrb he hQ
  go_enter Tryz.func133,Tryz.ntmps133
  go_wp2_with fail
  refine HT.out.mono ?_
  rintro e w1 ⟨rfl,ht,v1,hr⟩
  obtain⟨⟨_,_,_,e3⟩,_,ef⟩:=hr.cells
  have HTr:=Zh ht
  have HR1:=Zh hr
  clear ht hr HT c3
  go_upto_region 5 with fail
  have hc:(nest:Int)+1=((nest+1:Nat):Int):=by omega
  rw[hc]
  obtain⟨hr2,ht2⟩:=HR1.out.deep (nest+1)
  have HR2:=Zh hr2
  have HT2:=Zh (HTr.out.trans ht2)
  clear hr2 ht2 HTr HR1 hc e3 ef
  generalize w1.setCell ⟨rb,3,none⟩ (Zi ((nest+1:Nat):Int))=W2 at *
  generalize ((nest+1:Nat):Int)=n1 at *
  go_wp2_with fail
  refine (HI.out W2 v1 HT2.out HR2.out).mono ?_
  clear hen HI
  cases R with
  | er p x=>
   rintro e w3 ⟨rfl,ht⟩
   exact⟨rfl,rfl,HT2.out.trans ht⟩
  | ok x r2=>
   rintro e w3 ⟨vv,v2,rfl,hx,hr,ht⟩
   obtain⟨ao,q,qc,rfl⟩:=HSh.out _ _ _ _ hx
   obtain⟨⟨_,_,_,e3⟩,_,ef⟩:=hr.cells
   obtain⟨hr5,ht5⟩:=hr.deep nest
   have HE:=Zh (⟨_,_,rfl,okv_t1 HOk.out HQ.out HRb.out HT2.out.size hx ht5,hr5,HT2.out.trans (ht.trans ht5)⟩:PrP w rb en nest (PR.ok x r2) (okv (New Q w.heap.size)) (.returned (.slice ao q qc)) (w3.setCell ⟨rb,3,none⟩ (Zi (nest:Int))))
   have hc2:((nest+1:Nat):Int)=(nest:Int)+1:=by omega
   rw[hc2] at e3
   have hn1:(nest:Int)+1 - 1=nest:=by omega
   clear hx hr ht HSh HOk HQ HT2 HR2 hc2 hr5 ht5
   go_wp2_with fail
   exact bodyPost_ret (v:=.slice ao q qc) (by simp[results,Tryz.results133,go_sem]) rfl HE.out
theorem bracketedSs_any {α:Type} (w:World) (rb:Nat) (ts:List Tok) (en:Nat × Nat) (nest:Nat) (v:Value) (h:RdB w rb ts en nest v) (s1 s2:List UInt8) (hs1:s1≠[]) (hs2:s2≠[]) (hn:nest≤200) (fn:Nat) (hen:∀args w,(callFunc fn args).run Tryz.prog w=.ok (.enter fn args) w) (first caps:Array Value) (inner:Nat→List Tok→PR α) (okv:(Nat→Prop)→α→Value→World→Prop) (Q:Nat→Prop) (hQ:∀k,Q k→k < w.heap.size∧k≠rb) (hok:OkvF okv) (hsh:AggS okv)
  (HI:nxtT ts=s1→nest≠200→∀U v',T1 rb w U→RdB U rb ts.tail en (nest+1) v'→Calls Tryz.prog fn (first ++ caps) U (PrP U rb en (nest+1) (inner (nest+1) ts.tail) (okv (New Q U.heap.size)))) :
  Calls Tryz.prog 112 #[Zp rb,.string (S s1),.string (S s2),.func (.func fn) first caps] w (PrP w rb en nest (pBr en nest s1 s2 ts inner) (okv (New Q w.heap.size))):=by
 have hrb:=blk_lt h.box
 have HRb:=Zh hrb
 have HC:=comes_any w rb ts en nest v s1 h
 have HW:Hid (∀U,Below w.heap.size w U→∀b,Calls Tryz.prog 82 #[Zp rb,.bool b] U fun e w'=>e=(if b then .returned (.tuple #[]) else .panicked (fltS (nxtP en ts) 181))∧Below w.heap.size w w'):=fun U hU b=>(want_any U rb ts en nest v b (h.kept hU)).mono fun e w' q=>⟨q.1,hU.trans (q.2.mono hU.size)⟩
 unfold pBr
 by_cases he:nxtT ts=s1
 ·rw[decide_eq_true he] at HC
  rw[if_pos he]
  have hts:ts≠[]:=fun hc=>hs1 (by rw[← he,hc];rfl)
  have HO:Hid (∀U,Below w.heap.size w U→Calls Tryz.prog 133 #[Zp rb,.func (.func fn) first caps] U (PrP U rb en nest (pOpen en nest ts inner) (okv (New Q U.heap.size)))):=fun U hU=>openedSs_any U rb ts en nest v (h.kept hU) hts hn fn hen first caps inner okv Q (fun k hk=>⟨Nat.lt_of_lt_of_le (hQ k hk).1 hU.size,(hQ k hk).2⟩) hok hsh (fun hn V v' hV=>HI he hn V v' ((T1.bel hU).trans hV))
  have HM:Hid (∀U r nest v',RdB U rb r en nest v'→Calls Tryz.prog 46 #[Zp rb,.string (S s2)] U (PrP U rb en nest (pMust en s2 r) fun _ v _=>v=.tuple #[])):=fun U r nest v' hv=>must_any U rb r en nest v' s2 hs2 hv
  have HQ:=Zh hQ
  have HOk:=Zh hok
  have HSh:=Zh hsh
  have HC:=Zh HC
  generalize pOpen en nest ts inner=R at *
  generalize hm:(fun (x:α) (r:List Tok)=>(pMust en s2 r).bind fun _ r2=>PR.ok x r2)=ff at *
  have Hm:=Zh hm
  clear h he hQ hok hsh HI hs1 hs2 hrb hts hm
  generalize S s1=u1 at *
  generalize S s2=u2 at *
  go_enter Tryz.func112,Tryz.ntmps112
  go_wp2_with fail
  refine HC.out.mono ?_
  rintro e w1 ⟨rfl,hb⟩
  have HB:=Zh hb
  clear hb HC
  go_wp2_with fail
  refine (HW.out w1 HB.out true).mono ?_
  rintro e w2 ⟨rfl,hb⟩
  have HB:=Zh hb
  clear hb HW
  go_wp2_with fail
  refine (HO.out w2 HB.out).mono ?_
  clear hen HO
  have HT2:Hid (T1 rb w w2):=T1.bel HB.out
  clear HB
  cases R with
  | er p x=>
   rintro e w3 ⟨rfl,ht⟩
   exact⟨rfl,rfl,HT2.out.trans ht⟩
  | ok x r2=>
   rintro e w3 ⟨vv,v2,rfl,hx,hr,ht⟩
   obtain⟨ao,q,qc,rfl⟩:=HSh.out _ _ _ _ hx
   have HX3:=Zh hx
   have HT3:=Zh ht
   have HM4:=Zh (HM.out _ r2 nest v2 hr)
   have hf:(PR.ok x r2).bind ff=(pMust en s2 r2).bind fun _ r3=>PR.ok x r3:=by rw[PR.bind_ok,← Hm.out]
   have HF0:=Zh hf
   clear hx ht hr HM hf Hm HSh
   generalize pMust en s2 r2=M at *
   go_wp2_with fail
   refine HM4.out.mono ?_
   clear HM4
   cases M with
   | er p x=>
    rintro e w5 ⟨rfl,ht⟩
    refine⟨rfl,?_⟩
    rw[HF0.out]
    exact⟨rfl,HT2.out.trans (HT3.out.trans ht)⟩
   | ok y r3=>
    rintro e w5 ⟨_,v3,rfl,rfl,hr5,ht5⟩
    have HE:=Zh (⟨_,_,rfl,okv_t1 HOk.out HQ.out HRb.out HT2.out.size HX3.out ht5,hr5,HT2.out.trans (HT3.out.trans ht5)⟩:PrP w rb en nest (PR.ok x r3) (okv (New Q w.heap.size)) (.returned (.slice ao q qc)) w5)
    clear hr5 ht5 HT2 HT3 HX3 HOk HQ HRb
    go_wp2_with fail
    exact bodyPost_ret (v:=.slice ao q qc) (by simp[results,Tryz.results112,go_sem]) rfl (by rw[HF0.out];exact HE.out)
 ·rw[decide_eq_false he] at HC
  rw[if_neg he]
  have HC:=Zh HC
  clear h he hQ hok hsh HI hs1 hs2 hrb hen
  generalize S s1=u1 at *
  generalize S s2=u2 at *
  go_enter Tryz.func112,Tryz.ntmps112
  go_wp2_with fail
  refine HC.out.mono ?_
  rintro e w1 ⟨rfl,hb⟩
  have HB:=Zh hb
  clear hb HC
  go_wp2_with fail
  refine (HW.out w1 HB.out false).mono ?_
  rintro e w2 ⟨rfl,hb⟩
  exact⟨rfl,rfl,T1.bel hb⟩
theorem openedNs_any {α:Type} (w:World) (rb:Nat) (ts:List Tok) (en:Nat × Nat) (nest:Nat) (v:Value) (h:RdB w rb ts en nest v) (hts:ts≠[]) (hn:nest≤200) (fn:Nat) (hen:∀args w,(callFunc fn args).run Tryz.prog w=.ok (.enter fn args) w) (first caps:Array Value) (inner:Nat→List Tok→PR α) (okv:(Nat→Prop)→α→Value→World→Prop) (Q:Nat→Prop) (hQ:∀k,Q k→k < w.heap.size∧k≠rb) (hok:OkvF okv) (hsh:AggS okv)
  (HI:nest≠200→∀U v',T1 rb w U→RdB U rb ts.tail en (nest+1) v'→Calls Tryz.prog fn (first ++ caps) U (PrP U rb en (nest+1) (inner (nest+1) ts.tail) (okv (New Q U.heap.size)))) :
  Calls Tryz.prog 111 #[Zp rb,.func (.func fn) first caps] w (PrP w rb en nest (pOpen en nest ts inner) (okv (New Q w.heap.size))):=by
 cases ts with
 | nil=>exact absurd rfl hts
 | cons t r=>
 have hrb:=blk_lt h.box
 obtain⟨⟨_,_,_,c3⟩,_⟩:=h.cells
 have HRb:=Zh hrb
 unfold pOpen
 rw[List.tail_cons] at HI ⊢
 by_cases he:nest=200
 ·rw[if_pos he]
  subst he
  have HG:=Zh (giveUpS_any w rb (t :: r) en 200 v 182 h)
  clear h HI hok hsh hrb
  go_enter Tryz.func111,Tryz.ntmps111
  go_wp2_with fail
  refine HG.out.mono ?_
  rintro e w1 ⟨rfl,hb⟩
  exact⟨rfl,rfl,T1.bel hb⟩
 ·rw[if_neg he]
  have HI:=HI he
  have hnb:((nest:Int) == 200)=false:=by simp;omega
  have HT:=Zh (take_any w rb t r en nest v h)
  generalize inner (nest+1) r=R at *
  have HI:=Zh HI
  have HQ:=Zh hQ
  have HOk:=Zh hok
  have HSh:=Zh hsh
  clear h hok hsh hrb he hQ
  go_enter Tryz.func111,Tryz.ntmps111
  go_wp2_with fail
  refine HT.out.mono ?_
  rintro e w1 ⟨rfl,ht,v1,hr⟩
  obtain⟨⟨_,_,_,e3⟩,_,ef⟩:=hr.cells
  have HTr:=Zh ht
  have HR1:=Zh hr
  clear ht hr HT c3
  go_upto_region 5 with fail
  have hc:(nest:Int)+1=((nest+1:Nat):Int):=by omega
  rw[hc]
  obtain⟨hr2,ht2⟩:=HR1.out.deep (nest+1)
  have HR2:=Zh hr2
  have HT2:=Zh (HTr.out.trans ht2)
  clear hr2 ht2 HTr HR1 hc e3 ef
  generalize w1.setCell ⟨rb,3,none⟩ (Zi ((nest+1:Nat):Int))=W2 at *
  generalize ((nest+1:Nat):Int)=n1 at *
  go_wp2_with fail
  refine (HI.out W2 v1 HT2.out HR2.out).mono ?_
  clear hen HI
  cases R with
  | er p x=>
   rintro e w3 ⟨rfl,ht⟩
   exact⟨rfl,rfl,HT2.out.trans ht⟩
  | ok x r2=>
   rintro e w3 ⟨vv,v2,rfl,hx,hr,ht⟩
   obtain⟨ao,q,qc,rfl⟩:=HSh.out _ _ _ _ hx
   obtain⟨⟨_,_,_,e3⟩,_,ef⟩:=hr.cells
   obtain⟨hr5,ht5⟩:=hr.deep nest
   have HE:=Zh (⟨_,_,rfl,okv_t1 HOk.out HQ.out HRb.out HT2.out.size hx ht5,hr5,HT2.out.trans (ht.trans ht5)⟩:PrP w rb en nest (PR.ok x r2) (okv (New Q w.heap.size)) (.returned (.slice ao q qc)) (w3.setCell ⟨rb,3,none⟩ (Zi (nest:Int))))
   have hc2:((nest+1:Nat):Int)=(nest:Int)+1:=by omega
   rw[hc2] at e3
   have hn1:(nest:Int)+1 - 1=nest:=by omega
   clear hx hr ht HSh HOk HQ HT2 HR2 hc2 hr5 ht5
   go_wp2_with fail
   exact bodyPost_ret (v:=.slice ao q qc) (by simp[results,Tryz.results111,go_sem]) rfl HE.out
theorem bracketedNs_any {α:Type} (w:World) (rb:Nat) (ts:List Tok) (en:Nat × Nat) (nest:Nat) (v:Value) (h:RdB w rb ts en nest v) (s1 s2:List UInt8) (hs1:s1≠[]) (hs2:s2≠[]) (hn:nest≤200) (fn:Nat) (hen:∀args w,(callFunc fn args).run Tryz.prog w=.ok (.enter fn args) w) (first caps:Array Value) (inner:Nat→List Tok→PR α) (okv:(Nat→Prop)→α→Value→World→Prop) (Q:Nat→Prop) (hQ:∀k,Q k→k < w.heap.size∧k≠rb) (hok:OkvF okv) (hsh:AggS okv)
  (HI:nxtT ts=s1→nest≠200→∀U v',T1 rb w U→RdB U rb ts.tail en (nest+1) v'→Calls Tryz.prog fn (first ++ caps) U (PrP U rb en (nest+1) (inner (nest+1) ts.tail) (okv (New Q U.heap.size)))) :
  Calls Tryz.prog 83 #[Zp rb,.string (S s1),.string (S s2),.func (.func fn) first caps] w (PrP w rb en nest (pBr en nest s1 s2 ts inner) (okv (New Q w.heap.size))):=by
 have hrb:=blk_lt h.box
 have HRb:=Zh hrb
 have HC:=comes_any w rb ts en nest v s1 h
 have HW:Hid (∀U,Below w.heap.size w U→∀b,Calls Tryz.prog 82 #[Zp rb,.bool b] U fun e w'=>e=(if b then .returned (.tuple #[]) else .panicked (fltS (nxtP en ts) 181))∧Below w.heap.size w w'):=fun U hU b=>(want_any U rb ts en nest v b (h.kept hU)).mono fun e w' q=>⟨q.1,hU.trans (q.2.mono hU.size)⟩
 unfold pBr
 by_cases he:nxtT ts=s1
 ·rw[decide_eq_true he] at HC
  rw[if_pos he]
  have hts:ts≠[]:=fun hc=>hs1 (by rw[← he,hc];rfl)
  have HO:Hid (∀U,Below w.heap.size w U→Calls Tryz.prog 111 #[Zp rb,.func (.func fn) first caps] U (PrP U rb en nest (pOpen en nest ts inner) (okv (New Q U.heap.size)))):=fun U hU=>openedNs_any U rb ts en nest v (h.kept hU) hts hn fn hen first caps inner okv Q (fun k hk=>⟨Nat.lt_of_lt_of_le (hQ k hk).1 hU.size,(hQ k hk).2⟩) hok hsh (fun hn V v' hV=>HI he hn V v' ((T1.bel hU).trans hV))
  have HM:Hid (∀U r nest v',RdB U rb r en nest v'→Calls Tryz.prog 46 #[Zp rb,.string (S s2)] U (PrP U rb en nest (pMust en s2 r) fun _ v _=>v=.tuple #[])):=fun U r nest v' hv=>must_any U rb r en nest v' s2 hs2 hv
  have HQ:=Zh hQ
  have HOk:=Zh hok
  have HSh:=Zh hsh
  have HC:=Zh HC
  generalize pOpen en nest ts inner=R at *
  generalize hm:(fun (x:α) (r:List Tok)=>(pMust en s2 r).bind fun _ r2=>PR.ok x r2)=ff at *
  have Hm:=Zh hm
  clear h he hQ hok hsh HI hs1 hs2 hrb hts hm
  generalize S s1=u1 at *
  generalize S s2=u2 at *
  go_enter Tryz.func83,Tryz.ntmps83
  go_wp2_with fail
  refine HC.out.mono ?_
  rintro e w1 ⟨rfl,hb⟩
  have HB:=Zh hb
  clear hb HC
  go_wp2_with fail
  refine (HW.out w1 HB.out true).mono ?_
  rintro e w2 ⟨rfl,hb⟩
  have HB:=Zh hb
  clear hb HW
  go_wp2_with fail
  refine (HO.out w2 HB.out).mono ?_
  clear hen HO
  have HT2:Hid (T1 rb w w2):=T1.bel HB.out
  clear HB
  cases R with
  | er p x=>
   rintro e w3 ⟨rfl,ht⟩
   exact⟨rfl,rfl,HT2.out.trans ht⟩
  | ok x r2=>
   rintro e w3 ⟨vv,v2,rfl,hx,hr,ht⟩
   obtain⟨ao,q,qc,rfl⟩:=HSh.out _ _ _ _ hx
   have HX3:=Zh hx
   have HT3:=Zh ht
   have HM4:=Zh (HM.out _ r2 nest v2 hr)
   have hf:(PR.ok x r2).bind ff=(pMust en s2 r2).bind fun _ r3=>PR.ok x r3:=by rw[PR.bind_ok,← Hm.out]
   have HF0:=Zh hf
   clear hx ht hr HM hf Hm HSh
   generalize pMust en s2 r2=M at *
   go_wp2_with fail
   refine HM4.out.mono ?_
   clear HM4
   cases M with
   | er p x=>
    rintro e w5 ⟨rfl,ht⟩
    refine⟨rfl,?_⟩
    rw[HF0.out]
    exact⟨rfl,HT2.out.trans (HT3.out.trans ht)⟩
   | ok y r3=>
    rintro e w5 ⟨_,v3,rfl,rfl,hr5,ht5⟩
    have HE:=Zh (⟨_,_,rfl,okv_t1 HOk.out HQ.out HRb.out HT2.out.size HX3.out ht5,hr5,HT2.out.trans (HT3.out.trans ht5)⟩:PrP w rb en nest (PR.ok x r3) (okv (New Q w.heap.size)) (.returned (.slice ao q qc)) w5)
    clear hr5 ht5 HT2 HT3 HX3 HOk HQ HRb
    go_wp2_with fail
    exact bodyPost_ret (v:=.slice ao q qc) (by simp[results,Tryz.results83,go_sem]) rfl (by rw[HF0.out];exact HE.out)
 ·rw[decide_eq_false he] at HC
  rw[if_neg he]
  have HC:=Zh HC
  clear h he hQ hok hsh HI hs1 hs2 hrb hen
  generalize S s1=u1 at *
  generalize S s2=u2 at *
  go_enter Tryz.func83,Tryz.ntmps83
  go_wp2_with fail
  refine HC.out.mono ?_
  rintro e w1 ⟨rfl,hb⟩
  have HB:=Zh hb
  clear hb HC
  go_wp2_with fail
  refine (HW.out w1 HB.out false).mono ?_
  rintro e w2 ⟨rfl,hb⟩
  exact⟨rfl,rfl,T1.bel hb⟩
theorem Row3.al (U:World) (v0 v1 v2:Value):Row3 (U.alloc (.cells #[v0,v1,v2] 89)) U.heap.size v0 v1 v2:=heap_alloc_new _ _ rfl
theorem open_finN {α:Type} {w W2 w3 W5:World} {rb:Nat} {r2:List Tok} {en:Nat × Nat} {nest:Nat} {v2:Value} {okv:(Nat→Prop)→α→Value→World→Prop} {Q:Nat→Prop} {x:α} {a0 a1 a2 z0 z1 z2:Value} (hok:OkvF okv) (hQ:∀k,Q k→k < w.heap.size∧k≠rb) (hrb:rb < w.heap.size) (ht2:T1 rb w W2) (hx2:Row3 W2 w.heap.size z0 z1 z2) (hx:okv (New Q W2.heap.size) x (.agg #[a0,a1,a2]) w3) (hr:RdB w3 rb r2 en (nest+1) v2) (ht:T1 rb W2 w3) (h5:W5=(w3.alloc (.cells #[a0,a1,a2] 89)).setCell ⟨rb,3,none⟩ (Zi (nest:Int))) :
  Row3 W5 w3.heap.size a0 a1 a2∧Row3 W5 w.heap.size z0 z1 z2∧Row3 (put3 W5 w.heap.size a0 a1 a2) w.heap.size a0 a1 a2∧okv (New Q w.heap.size) x (.agg #[a0,a1,a2]) (put3 W5 w.heap.size a0 a1 a2)∧RdB (put3 W5 w.heap.size a0 a1 a2) rb r2 en nest v2∧T1 rb w (put3 W5 w.heap.size a0 a1 a2):=by
 have hl:=blk_lt hx2
 have hb4:Below w3.heap.size w3 (w3.alloc (.cells #[a0,a1,a2] 89)):=bel_al _ _
 obtain⟨hr5,ht5⟩:=(hr.kept hb4).deep nest
 rw[← h5] at hr5 ht5
 have ht35:T1 rb w3 W5:=(T1.bel hb4).trans ht5
 have g1:Row3 W5 w3.heap.size a0 a1 a2:=(Row3.al w3 a0 a1 a2).t1 ht5 (by have:=ht.size;omega)
 have g0:Row3 W5 w.heap.size z0 z1 z2:=hx2.t1 (ht.trans ht35) (by omega)
 have hp:Below w.heap.size W5 (put3 W5 w.heap.size a0 a1 a2):=put3_below (Below.refl _ _) (Nat.le_refl _) _ _ _
 refine⟨g1,g0,g0.put _ _ _,?_,hr5.low hp hrb,(ht2.trans (ht.trans ht35)).low hp⟩
 refine hok _ _ _ _ _ _ hx (fun k hk=>?_) (fun k hk hlt=>?_)
 ·rcases hk with hk | hk
  ·exact .inl hk
  ·exact .inr (by omega)
 ·have hk1:k≠w.heap.size:=by
   rcases hk with hk | hk
   ·have:=(hQ k hk).1;omega
   ·omega
  have hk2:k≠rb:=by
   rcases hk with hk | hk
   ·exact (hQ k hk).2
   ·omega
  have e1:(put3 W5 w.heap.size a0 a1 a2).heap[k]? = W5.heap[k]?:=by
   simp only[put3]
   rw[heap_setCell_other _ _ _ _ hk1,heap_setCell_other _ _ _ _ hk1,heap_setCell_other _ _ _ _ hk1]
  exact e1.trans (ht35.block k hlt hk2)
theorem openedN_any {α:Type} (w:World) (rb:Nat) (ts:List Tok) (en:Nat × Nat) (nest:Nat) (v:Value) (h:RdB w rb ts en nest v) (hts:ts≠[]) (hn:nest≤200) (fn:Nat) (hen:∀args w,(callFunc fn args).run Tryz.prog w=.ok (.enter fn args) w) (first caps:Array Value) (inner:Nat→List Tok→PR α) (okv:(Nat→Prop)→α→Value→World→Prop) (Q:Nat→Prop) (hQ:∀k,Q k→k < w.heap.size∧k≠rb) (hok:OkvF okv) (hsh:∀P x v W,okv P x v W→∃(l c:Int) (s:ByteArray),v=.agg #[.string s,Zi l,Zi c])
  (HI:nest≠200→∀U v',T1 rb w U→RdB U rb ts.tail en (nest+1) v'→Calls Tryz.prog fn (first ++ caps) U (PrP U rb en (nest+1) (inner (nest+1) ts.tail) (okv (New Q U.heap.size)))) :
  Calls Tryz.prog 170 #[Zp rb,.func (.func fn) first caps] w (PrP w rb en nest (pOpen en nest ts inner) (okv (New Q w.heap.size))):=by
 cases ts with
 | nil=>exact absurd rfl hts
 | cons t r=>
 have hrb:=blk_lt h.box
 obtain⟨W1,hW1⟩:=nm (w.alloc (.cells #[Ze,Zi 0,Zi 0] 89))
 have hb1:Below w.heap.size w W1:=by rw[hW1];exact bel_al _ _
 have HX1:Hid (Row3 W1 w.heap.size (Ze) (Zi 0) (Zi 0)):=by show Row3 _ _ _ _ _;rw[hW1];exact Row3.al _ _ _ _
 have hr1:=h.kept hb1
 obtain⟨⟨_,_,_,c3⟩,_⟩:=hr1.cells
 have HRb:=Zh hrb
 unfold pOpen
 rw[List.tail_cons] at HI ⊢
 by_cases he:nest=200
 ·rw[if_pos he]
  subst he
  have HG:Hid (Calls Tryz.prog 110 #[Zp rb,Zi 182] W1 fun e w'=>e=.panicked (fltS (nxtP en (t :: r)) 182)∧Below w.heap.size w w'):=(giveUpS_any W1 rb (t :: r) en 200 v 182 hr1).mono fun e w' q=>⟨q.1,hb1.trans (q.2.mono hb1.size)⟩
  clear h hr1 HI hok hsh hrb hb1
  go_enter Tryz.func170,Tryz.ntmps170
  go_upto_region 1 with fail
  rw[← hW1]
  clear hW1
  go_wp2_with fail
  refine HG.out.mono ?_
  rintro e w1 ⟨rfl,hb⟩
  exact⟨rfl,rfl,T1.bel hb⟩
 ·rw[if_neg he]
  have HI:=HI he
  have hnb:((nest:Int) == 200)=false:=by simp;omega
  have HT:Hid (Calls Tryz.prog 79 #[Zp rb] W1 fun e w'=>e=.returned (tkV t.1 t.2.1 t.2.2.1 t.2.2.2)∧Row3 w' w.heap.size (Ze) (Zi 0) (Zi 0)∧T1 rb w w'∧∃v',RdB w' rb r en nest v'):=(take_any W1 rb t r en nest v hr1).mono fun e w' q=>⟨q.1,HX1.out.t1 q.2.1 (by omega),(T1.bel hb1).trans q.2.1,q.2.2⟩
  generalize inner (nest+1) r=R at *
  have HI:=Zh HI
  have HQ:=Zh hQ
  have HOk:=Zh hok
  have HSh:=Zh hsh
  clear h hr1 hok hsh hrb hb1 he HX1 hQ
  go_enter Tryz.func170,Tryz.ntmps170
  go_upto_region 1 with fail
  rw[← hW1]
  clear hW1
  go_wp2_with fail
  refine HT.out.mono ?_
  rintro e w1 ⟨rfl,hx,ht,v1,hr⟩
  obtain⟨⟨_,_,_,e3⟩,_,ef⟩:=hr.cells
  have HX1:=Zh hx
  have HTr:=Zh ht
  have HR1:=Zh hr
  clear hx ht hr HT c3
  go_upto_region 5 with fail
  have hc:(nest:Int)+1=((nest+1:Nat):Int):=by omega
  rw[hc]
  obtain⟨hr2,ht2⟩:=HR1.out.deep (nest+1)
  have HR2:=Zh hr2
  have HT2:=Zh (HTr.out.trans ht2)
  have HX2:=Zh (HX1.out.t1 ht2 (by have:=HRb.out;omega))
  clear hr2 ht2 HX1 HTr HR1 hc e3 ef
  generalize w1.setCell ⟨rb,3,none⟩ (Zi ((nest+1:Nat):Int))=W2 at *
  generalize ((nest+1:Nat):Int)=n1 at *
  go_wp2_with fail
  refine (HI.out W2 v1 HT2.out HR2.out).mono ?_
  clear hen HI
  cases R with
  | er p x=>
   rintro e w3 ⟨rfl,ht⟩
   exact⟨rfl,rfl,HT2.out.trans ht⟩
  | ok x r2=>
   rintro e w3 ⟨vv,v2,rfl,hx,hr,ht⟩
   obtain⟨l,c,s,rfl⟩:=HSh.out _ _ _ _ hx
   have HF:=Zh (open_finN (W5:=(w3.alloc (.cells #[.string s,Zi l,Zi c] 89)).setCell ⟨rb,3,none⟩ (Zi (nest:Int))) HOk.out HQ.out HRb.out HT2.out HX2.out hx hr ht rfl)
   obtain⟨⟨_,_,_,e3⟩,_,ef⟩:=(hr.kept (bel_al w3 (.cells #[.string s,Zi l,Zi c] 89))).cells
   have hc2:((nest+1:Nat):Int)=(nest:Int)+1:=by omega
   rw[hc2] at e3
   have hn1:(nest:Int)+1 - 1=nest:=by omega
   clear hx hr ht HSh HOk HQ HX2 HT2 HR2 hc2 HI
   go_upto_region 7 with fail
   obtain⟨g1,g0,gf,hx,hr,ht⟩:=HF.out
   clear HF e3 ef hn1
   generalize (w3.alloc (.cells #[.string s,Zi l,Zi c] 89)).setCell ⟨rb,3,none⟩ (Zi (nest:Int))=W5 at *
   generalize w3.heap.size=B at *
   have HE:=Zh (⟨_,_,rfl,hx,hr,ht⟩:PrP w rb en nest (PR.ok x r2) (okv (New Q w.heap.size)) (.returned (.agg #[.string s,Zi l,Zi c])) (put3 W5 w.heap.size (.string s) (Zi l) (Zi c)))
   have GF:=Zh gf
   obtain⟨⟨x0,x1,x2⟩,_⟩:=g1.cells
   obtain⟨_,y0,y1,y2⟩:=g0.cells
   clear g0 g1 gf hx hr ht
   go_wp2_with fail
   obtain⟨⟨d0,d1,d2⟩,_⟩:=GF.out.cells
   exact bodyPost_ret (v:=.agg #[.string s,Zi l,Zi c]) (by simp[results,Tryz.results170,go_sem,d0,d1,d2]) rfl HE.out
theorem box_finN {α:Type} {w W2 w3 W5:World} {rb:Nat} {r2:List Tok} {en:Nat × Nat} {nest:Nat} {v2:Value} {okv:(Nat→Prop)→α→Value→World→Prop} {Q:Nat→Prop} {x:α} {a0 a1 a2 z0 z1 z2:Value} (hok:OkvF okv) (hQ:∀k,Q k→k < w.heap.size∧k≠rb) (hrb:rb < w.heap.size) (ht2:T1 rb w W2) (hx2:Row3 W2 w.heap.size z0 z1 z2) (hx:okv (New Q W2.heap.size) x (.agg #[a0,a1,a2]) w3) (ht:T1 rb W2 w3) (ht5:T1 rb (w3.alloc (.cells #[a0,a1,a2] 89)) W5) (hr5:RdB W5 rb r2 en nest v2) :
  Row3 W5 w3.heap.size a0 a1 a2∧Row3 W5 w.heap.size z0 z1 z2∧Row3 (put3 W5 w.heap.size a0 a1 a2) w.heap.size a0 a1 a2∧PrP w rb en nest (PR.ok x r2) (okv (New Q w.heap.size)) (.returned (.agg #[a0,a1,a2])) (put3 W5 w.heap.size a0 a1 a2):=by
 have hl:=blk_lt hx2
 have hb4:Below w3.heap.size w3 (w3.alloc (.cells #[a0,a1,a2] 89)):=bel_al _ _
 have ht35:T1 rb w3 W5:=(T1.bel hb4).trans ht5
 have g1:Row3 W5 w3.heap.size a0 a1 a2:=(Row3.al w3 a0 a1 a2).t1 ht5 (by have:=ht.size;omega)
 have g0:Row3 W5 w.heap.size z0 z1 z2:=hx2.t1 (ht.trans ht35) (by omega)
 have hp:Below w.heap.size W5 (put3 W5 w.heap.size a0 a1 a2):=put3_below (Below.refl _ _) (Nat.le_refl _) _ _ _
 refine⟨g1,g0,g0.put _ _ _,_,_,rfl,?_,hr5.low hp hrb,(ht2.trans (ht.trans ht35)).low hp⟩
 refine hok _ _ _ _ _ _ hx (fun k hk=>?_) (fun k hk hlt=>?_)
 ·rcases hk with hk | hk
  ·exact .inl hk
  ·exact .inr (by omega)
 ·have hk1:k≠w.heap.size:=by
   rcases hk with hk | hk
   ·have:=(hQ k hk).1;omega
   ·omega
  have hk2:k≠rb:=by
   rcases hk with hk | hk
   ·exact (hQ k hk).2
   ·omega
  have e1:(put3 W5 w.heap.size a0 a1 a2).heap[k]? = W5.heap[k]?:=by
   simp only[put3]
   rw[heap_setCell_other _ _ _ _ hk1,heap_setCell_other _ _ _ _ hk1,heap_setCell_other _ _ _ _ hk1]
  exact e1.trans (ht35.block k hlt hk2)
def Agg3 {α:Type} (okv:(Nat→Prop)→α→Value→World→Prop):Prop:=∀P x v W,okv P x v W→∃(l c:Int) (s:ByteArray),v=.agg #[.string s,Zi l,Zi c]
theorem bracketedN_any {α:Type} (w:World) (rb:Nat) (ts:List Tok) (en:Nat × Nat) (nest:Nat) (v:Value) (h:RdB w rb ts en nest v) (s1 s2:List UInt8) (hs1:s1≠[]) (hs2:s2≠[]) (hn:nest≤200) (fn:Nat) (hen:∀args w,(callFunc fn args).run Tryz.prog w=.ok (.enter fn args) w) (first caps:Array Value) (inner:Nat→List Tok→PR α) (okv:(Nat→Prop)→α→Value→World→Prop) (Q:Nat→Prop) (hQ:∀k,Q k→k < w.heap.size∧k≠rb) (hok:OkvF okv) (hsh:Agg3 okv)
  (HI:nxtT ts=s1→nest≠200→∀U v',T1 rb w U→RdB U rb ts.tail en (nest+1) v'→Calls Tryz.prog fn (first ++ caps) U (PrP U rb en (nest+1) (inner (nest+1) ts.tail) (okv (New Q U.heap.size)))) :
  Calls Tryz.prog 160 #[Zp rb,.string (S s1),.string (S s2),.func (.func fn) first caps] w (PrP w rb en nest (pBr en nest s1 s2 ts inner) (okv (New Q w.heap.size))):=by
 have hrb:=blk_lt h.box
 obtain⟨W1,hW1⟩:=nm (w.alloc (.cells #[Ze,Zi 0,Zi 0] 89))
 have hb1:Below w.heap.size w W1:=by rw[hW1];exact bel_al _ _
 have HX1:Row3 W1 w.heap.size (Ze) (Zi 0) (Zi 0):=by rw[hW1];exact Row3.al _ _ _ _
 have HS1:Hid (w.heap.size < W1.heap.size):=blk_lt HX1
 have HRb:=Zh hrb
 have hr1:=h.kept hb1
 have HC:=(comes_any W1 rb ts en nest v s1 hr1).mono fun e w' q=>(⟨q.1,q.2⟩:e=.returned (.bool (decide (nxtT ts=s1)))∧Below W1.heap.size W1 w')
 have HW:Hid (∀U,Below W1.heap.size W1 U→∀b,Calls Tryz.prog 82 #[Zp rb,.bool b] U fun e w'=>e=(if b then .returned (.tuple #[]) else .panicked (fltS (nxtP en ts) 181))∧Below W1.heap.size W1 w'):=fun U hU b=>(want_any U rb ts en nest v b (hr1.kept hU)).mono fun e w' q=>⟨q.1,hU.trans (q.2.mono hU.size)⟩
 unfold pBr
 by_cases he:nxtT ts=s1
 ·rw[decide_eq_true he] at HC
  rw[if_pos he]
  have hts:ts≠[]:=fun hc=>hs1 (by rw[← he,hc];rfl)
  have HO:Hid (∀U,Below W1.heap.size W1 U→Calls Tryz.prog 170 #[Zp rb,.func (.func fn) first caps] U (PrP U rb en nest (pOpen en nest ts inner) (okv (New Q U.heap.size)))):=fun U hU=>openedN_any U rb ts en nest v (hr1.kept hU) hts hn fn hen first caps inner okv Q (fun k hk=>⟨Nat.lt_of_lt_of_le (hQ k hk).1 (Nat.le_trans hb1.size hU.size),(hQ k hk).2⟩) hok hsh (fun hn V v' hV=>HI he hn V v' ((T1.bel hb1).trans ((T1.bel hU).trans hV)))
  have HM:Hid (∀U r nest v',RdB U rb r en nest v'→Calls Tryz.prog 46 #[Zp rb,.string (S s2)] U (PrP U rb en nest (pMust en s2 r) fun _ v _=>v=.tuple #[])):=fun U r nest v' hv=>must_any U rb r en nest v' s2 hs2 hv
  have HB1:=Zh hb1
  have HQ:=Zh hQ
  have HOk:=Zh hok
  have HSh:=Zh hsh
  have HC:=Zh HC
  have HX:=Zh HX1
  generalize pOpen en nest ts inner=R at *
  generalize hm:(fun (x:α) (r:List Tok)=>(pMust en s2 r).bind fun _ r2=>PR.ok x r2)=ff at *
  have Hm:=Zh hm
  clear h hr1 hb1 he HX1 hQ hok hsh HI hs1 hs2 hrb hts hm
  generalize S s1=u1 at *
  generalize S s2=u2 at *
  go_enter Tryz.func160,Tryz.ntmps160
  go_upto_region 1 with fail
  rw[← hW1]
  clear hW1
  go_wp2_with fail
  refine HC.out.mono ?_
  rintro e w1 ⟨rfl,hb⟩
  have HB:=Zh hb
  clear hb HC
  go_wp2_with fail
  refine (HW.out w1 HB.out true).mono ?_
  rintro e w2 ⟨rfl,hb⟩
  have HB:=Zh hb
  clear hb HW
  go_upto_region 2 with fail
  go_wp2_with fail
  refine (HO.out w2 HB.out).mono ?_
  clear hen HO
  have HT2:Hid (T1 rb w w2):=(T1.bel HB1.out).trans (T1.bel HB.out)
  have HX2:=Zh (HX.out.kept HB.out)
  clear HB HB1 HX
  cases R with
  | er p x=>
   rintro e w3 ⟨rfl,ht⟩
   exact⟨rfl,rfl,HT2.out.trans ht⟩
  | ok x r2=>
   rintro e w3 ⟨vv,v2,rfl,hx,hr,ht⟩
   obtain⟨l,c,s,rfl⟩:=HSh.out _ _ _ _ hx
   have HX3:=Zh hx
   have HT3:=Zh ht
   have HR4:=Zh (hr.kept (bel_al w3 (.cells #[.string s,Zi l,Zi c] 89)))
   have HM4:=Zh (HM.out _ r2 nest v2 HR4.out)
   have hf:(PR.ok x r2).bind ff=(pMust en s2 r2).bind fun _ r3=>PR.ok x r3:=by rw[PR.bind_ok,← Hm.out]
   have HF0:=Zh hf
   clear hx ht hr HM hf Hm HR4 HSh
   generalize pMust en s2 r2=M at *
   go_upto_region 3 with fail
   go_wp2_with fail
   refine HM4.out.mono ?_
   clear HM4
   cases M with
   | er p x=>
    rintro e w5 ⟨rfl,ht⟩
    refine⟨rfl,?_⟩
    rw[HF0.out]
    exact⟨rfl,HT2.out.trans (HT3.out.trans ((T1.bel (bel_al _ _)).trans ht))⟩
   | ok y r3=>
    rintro e w5 ⟨_,v3,rfl,rfl,hr5,ht5⟩
    have HF:=Zh (box_finN HOk.out HQ.out HRb.out HT2.out HX2.out HX3.out HT3.out ht5 hr5)
    clear hr5 ht5 HT2 HT3 HX2 HX3 HOk HQ HRb
    go_upto_region 4 with fail
    obtain⟨g1,g0,gf,hp⟩:=HF.out
    clear HF
    generalize w3.heap.size=B at *
    have HE:=Zh hp
    have GF:=Zh gf
    obtain⟨⟨x0,x1,x2⟩,_⟩:=g1.cells
    obtain⟨_,y0,y1,y2⟩:=g0.cells
    clear g0 g1 gf hp
    go_wp2_with fail
    obtain⟨⟨d0,d1,d2⟩,_⟩:=GF.out.cells
    exact bodyPost_ret (v:=.agg #[.string s,Zi l,Zi c]) (by simp[results,Tryz.results160,go_sem,d0,d1,d2]) rfl (by rw[HF0.out];exact HE.out)
 ·rw[decide_eq_false he] at HC
  rw[if_neg he]
  have HB1:=Zh hb1
  have HC:=Zh HC
  clear h hr1 hb1 he HX1 hQ hok hsh HI hs1 hs2 hrb HS1 hen
  generalize S s1=u1 at *
  generalize S s2=u2 at *
  go_enter Tryz.func160,Tryz.ntmps160
  go_upto_region 1 with fail
  rw[← hW1]
  clear hW1
  go_wp2_with fail
  refine HC.out.mono ?_
  rintro e w1 ⟨rfl,hb⟩
  have HB:=Zh hb
  clear hb HC
  go_wp2_with fail
  refine (HW.out w1 HB.out false).mono ?_
  rintro e w2 ⟨rfl,hb⟩
  exact⟨rfl,rfl,(T1.bel HB1.out).trans (T1.bel hb)⟩
mutual
inductive ArC (P:Nat→Prop) (W:World):List Ex→Value→Prop where
 | none:ArC P W [] (Zn)
 | row (g:Nat) (xs:List Ex) (cs:List Value):P g→W.heap[g]? = some (.cells cs.toArray 66 (0,0))→ExsC P W xs cs→ArC P W xs (.slice (some ⟨g,0,none⟩) xs.length xs.length)
inductive ExsC (P:Nat→Prop) (W:World):List Ex→List Value→Prop where
 | nil:ExsC P W [] []
 | cons (k op:Nat) (n:Int) (nm:List UInt8) (args:List Ex) (p:Nat × Nat) (A:Value) (xs:List Ex) (cs:List Value):ArC P W args A→ExsC P W xs cs→ExsC P W (.mk k op n nm args p :: xs) (Zi (k:Int) :: Zi (op:Int) :: Zi n :: .string (S nm) :: A :: Zi (p.1:Int) :: Zi (p.2:Int) :: cs)
end
mutual
theorem ArC.kept {P P':Nat→Prop} {W W':World} (hp:∀k,P k→P' k) (hs:∀k,P k→k < W.heap.size→W'.heap[k]? = W.heap[k]?) {xs:List Ex} {v:Value} : ArC P W xs v→ArC P' W' xs v
 | .none=>.none
 | .row g xs cs h1 h2 h3=>.row g xs cs (hp g h1) ((hs g h1 (blk_lt h2)).trans h2) (ExsC.kept hp hs h3)
theorem ExsC.kept {P P':Nat→Prop} {W W':World} (hp:∀k,P k→P' k) (hs:∀k,P k→k < W.heap.size→W'.heap[k]? = W.heap[k]?) {xs:List Ex} {cs:List Value} : ExsC P W xs cs→ExsC P' W' xs cs
 | .nil=>.nil
 | .cons k op n nm args p A xs cs h1 h2=>.cons k op n nm args p A xs cs (ArC.kept hp hs h1) (ExsC.kept hp hs h2)
end
def okE (P:Nat→Prop) (x:Ex) (v:Value) (W:World):Prop:=match x with
 | .mk k op n nm args p=>∃A,v=.agg #[Zi (k:Int),Zi (op:Int),Zi n,.string (S nm),A,Zi (p.1:Int),Zi (p.2:Int)]∧ArC P W args A
theorem ArC.slice {P:Nat→Prop} {W:World} {xs:List Ex} {v:Value} (h:ArC P W xs v):∃ao,v=.slice ao xs.length xs.length:=by
 cases h with
 | none=>exact⟨_,rfl⟩
 | row g xs cs=>exact⟨_,rfl⟩
theorem okE_f:OkvF okE:=by
 intro P P' x v W W' h hp hs
 obtain⟨k,op,n,nm,args,p⟩:=x
 obtain⟨A,hv,ha⟩:=h
 exact⟨A,hv,ha.kept hp hs⟩
theorem okE_7:Agg7 okE:=by
 intro P x v W h
 obtain⟨k,op,n,nm,args,p⟩:=x
 obtain⟨A,hv,ha⟩:=h
 obtain⟨ao,rfl⟩:=ha.slice
 exact⟨_,_,_,_,_,_,_,_,_,hv⟩
def okXY (P:Nat→Prop) (xy:Ex × Ex) (v:Value) (W:World):Prop:=ArC P W [xy.1,xy.2] v
theorem okXY_f:OkvF okXY:=fun _ _ _ _ _ _ h hp hs=>h.kept hp hs
theorem okXY_s:AggS okXY:=fun P x v W h=>by
 obtain⟨ao,rfl⟩:=ArC.slice h
 exact⟨_,_,_,rfl⟩
def okN (_:Nat→Prop) (n:List UInt8 × (Nat × Nat)) (v:Value) (_:World):Prop:=v=.agg #[.string (S n.1),Zi (n.2.1:Int),Zi (n.2.2:Int)]
theorem okN_f:OkvF okN:=fun _ _ _ _ _ _ h _ _=>h
theorem okN_3:Agg3 okN:=fun _ _ _ _ h=>⟨_,_,_,h⟩
theorem joinsOnce_any (w:World) (rank:Nat):Calls Tryz.prog 130 #[Zi (rank:Int)] w fun e w'=>e=.returned (.bool (decide (rank=6)))∧w'=w:=by
 have hd:decide (rank=6)=((rank:Int) == 6):=by
  rw[Bool.eq_iff_iff];simp;omega
 rw[hd]
 clear hd
 go_enter Tryz.func130,Tryz.ntmps130
 go_wp2
 exact bodyPost_ret (v:=.bool ((rank:Int) == 6)) (by simp[results,Tryz.results130,go_sem]) rfl ⟨rfl,rfl⟩
theorem signNeg_any (w:World):Calls Tryz.prog 142 #[Zi 20] w fun e w'=>e=.returned (.string (S [45]))∧w'=w:=by
 go_enter Tryz.func142,Tryz.ntmps142
 go_wp2
 exact bodyPost_ret (v:=.string (S [45])) (by simp[results,Tryz.results142,go_sem];rfl) rfl ⟨rfl,rfl⟩
theorem signNot_any (w:World):Calls Tryz.prog 142 #[Zi 21] w fun e w'=>e=.returned (.string (S [33]))∧w'=w:=by
 go_enter Tryz.func142,Tryz.ntmps142
 go_wp2
 exact bodyPost_ret (v:=.string (S [33])) (by simp[results,Tryz.results142,go_sem];rfl) rfl ⟨rfl,rfl⟩
theorem wordMin_any (w:World):Calls Tryz.prog 171 #[Zi 28] w fun e w'=>e=.returned (.string (S wMin))∧w'=w:=by
 go_enter Tryz.func171,Tryz.ntmps171
 go_wp2
 exact bodyPost_ret (v:=.string (S wMin)) (by simp[results,Tryz.results171,go_sem];rfl) rfl ⟨rfl,rfl⟩
theorem wordMax_any (w:World):Calls Tryz.prog 171 #[Zi 29] w fun e w'=>e=.returned (.string (S wMax))∧w'=w:=by
 go_enter Tryz.func171,Tryz.ntmps171
 go_wp2
 exact bodyPost_ret (v:=.string (S wMax)) (by simp[results,Tryz.results171,go_sem];rfl) rfl ⟨rfl,rfl⟩
def joC:List Value:=[.string ⟨#[124,124]⟩,Zi 1,Zi 9,Zi 0,.string ⟨#[38,38]⟩,Zi 2,Zi 8,Zi 0,.string ⟨#[124]⟩,Zi 3,Zi 7,Zi 16,.string ⟨#[94]⟩,Zi 4,Zi 7,Zi 17,.string ⟨#[38]⟩,Zi 5,Zi 7,Zi 15,.string ⟨#[61,61]⟩,Zi 6,Zi 7,Zi 22,.string ⟨#[33,61]⟩,Zi 6,Zi 7,Zi 23,.string ⟨#[60]⟩,Zi 6,Zi 7,Zi 24,.string ⟨#[60,61]⟩,Zi 6,Zi 7,Zi 25,.string ⟨#[62]⟩,Zi 6,Zi 7,Zi 26,.string ⟨#[62,61]⟩,Zi 6,Zi 7,Zi 27,.string ⟨#[60,60]⟩,Zi 7,Zi 7,Zi 18,.string ⟨#[62,62]⟩,Zi 7,Zi 7,Zi 19,.string ⟨#[43]⟩,Zi 8,Zi 7,Zi 10,.string ⟨#[45]⟩,Zi 8,Zi 7,Zi 11,.string ⟨#[42]⟩,Zi 9,Zi 7,Zi 12,.string ⟨#[47]⟩,Zi 9,Zi 7,Zi 13,.string ⟨#[37]⟩,Zi 9,Zi 7,Zi 14]
def JoVar (w:World):Prop:=∀i,i < 72→w.cell? ⟨5,i,none⟩=joC[i]?
theorem JoVar.kept {w w':World} (h:JoVar w) (hb:Below w.heap.size w w'):JoVar w':=fun i hi=>by
 have h1:=h i hi
 have h2:joC[i]? = some (joC[i]'(by simpa [joC] using hi)):=List.getElem?_eq_getElem _
 rw[h2] at h1 ⊢
 exact (hb.cell (cell_lt h1)).trans h1
theorem joints_index (i:Nat) (hi:i < 18) (W:World):(Instr.index 192 (.agg joC.toArray) (Zi (i:Int))).run Tryz.prog W=.ok (.agg #[.string (S jointL[i]!.1),Zi (jointL[i]!.2.1:Int),Zi (jointL[i]!.2.2.1:Int),Zi (jointL[i]!.2.2.2:Int)]) W:=by
 obtain rfl | rfl | rfl | rfl | rfl | rfl | rfl | rfl | rfl | rfl | rfl | rfl | rfl | rfl | rfl | rfl | rfl | rfl:i=0∨i=1∨i=2∨i=3∨i=4∨i=5∨i=6∨i=7∨i=8∨i=9∨i=10∨i=11∨i=12∨i=13∨i=14∨i=15∨i=16∨i=17:=by omega
 all_goals kernel_rfl
theorem jo_hit {rank:Nat} {s:List UInt8} {i:Nat} (hi:i < 18) (hm:∀j,j < i→¬(jointL[j]!.2.1=rank∧jointL[j]!.1=s)) (h1:jointL[i]!.2.1=rank) (h2:jointL[i]!.1=s):jointO rank s=some jointL[i]!.2.2:=by
 have hl:i < jointL.length:=hi
 unfold jointO
 rw[(List.find?_eq_some_iff_getElem (b:=jointL[i]!)).2 ⟨by rw[h1,h2];simp,i,hl,(getElem!_pos jointL i hl).symm,fun j hj=>?_⟩]
 ·rfl
 ·have h3:=hm j hj
  rw[getElem!_pos jointL j (by omega)] at h3
  simp only[Bool.not_eq_true',Bool.and_eq_false_iff,decide_eq_false_iff_not]
  by_cases h4:(jointL[j]'(by omega)).2.1=rank
  ·exact .inr (fun h5=>h3 ⟨h4,h5⟩)
  ·exact .inl h4
theorem jo_miss {rank:Nat} {s:List UInt8} (hm:∀j,j < 18→¬(jointL[j]!.2.1=rank∧jointL[j]!.1=s)):jointO rank s=none:=by
 unfold jointO
 rw[List.find?_eq_none.2]
 ·rfl
 ·intro x hx
  obtain⟨j,hj,rfl⟩:=List.getElem_of_mem hx
  have h3:=hm j hj
  rw[getElem!_pos jointL j hj] at h3
  simpa using h3
def Row4 (W:World) (R:Nat) (v0 v1 v2 v3:Value):Prop:=W.heap[R]? = some (.cells #[v0,v1,v2,v3] 182 (0,0))
theorem Row4.kept {w w':World} {R:Nat} {v0 v1 v2 v3:Value} (h:Row4 w R v0 v1 v2 v3) (hb:Below w.heap.size w w'):Row4 w' R v0 v1 v2 v3:=(hb.block _ (blk_lt h)).trans h
theorem Row4.al (U:World) (v0 v1 v2 v3:Value):Row4 (U.alloc (.cells #[v0,v1,v2,v3] 182)) U.heap.size v0 v1 v2 v3:=heap_alloc_new _ _ rfl
theorem Row4.cells {W:World} {R:Nat} {v0 v1 v2 v3:Value} (h:Row4 W R v0 v1 v2 v3):(W.cell? ⟨R,0,none⟩=some v0∧W.cell? ⟨R,1,none⟩=some v1∧W.cell? ⟨R,2,none⟩=some v2∧W.cell? ⟨R,3,none⟩=some v3)∧W.frozen? ⟨R,0,none⟩=false∧W.frozen? ⟨R,1,none⟩=false∧W.frozen? ⟨R,2,none⟩=false∧W.frozen? ⟨R,3,none⟩=false:=by
 unfold Row4 at h
 exact⟨⟨by simp[World.cell?,h],by simp[World.cell?,h],by simp[World.cell?,h],by simp[World.cell?,h]⟩,frozen_of_row W R 0 _ _ h,frozen_of_row W R 1 _ _ h,frozen_of_row W R 2 _ _ h,frozen_of_row W R 3 _ _ h⟩
abbrev put4 (W:World) (R:Nat) (v0 v1 v2 v3:Value):World:=(((W.setCell ⟨R,0,none⟩ v0).setCell ⟨R,1,none⟩ v1).setCell ⟨R,2,none⟩ v2).setCell ⟨R,3,none⟩ v3
theorem put4_below {C:Nat} {W0 W:World} (hb:Below C W0 W) {R:Nat} (hR:C≤R) (v0 v1 v2 v3:Value):Below C W0 (put4 W R v0 v1 v2 v3):=((((hb.setCell (p:=⟨R,0,none⟩) hR v0).setCell (p:=⟨R,1,none⟩) hR v1).setCell (p:=⟨R,2,none⟩) hR v2).setCell (p:=⟨R,3,none⟩) hR v3)
theorem Row4.put {W:World} {R:Nat} {a0 a1 a2 a3:Value} (h:Row4 W R a0 a1 a2 a3) (v0 v1 v2 v3:Value):Row4 (put4 W R v0 v1 v2 v3) R v0 v1 v2 v3:=
 heap_setCell_same _ R 3 _ _ v3 (heap_setCell_same _ R 2 _ _ v2 (heap_setCell_same _ R 1 _ _ v1 (heap_setCell_same _ R 0 _ _ v0 h)))
def JtP (rank:Nat) (s:List UInt8) (e:Ending):Prop:=match jointO rank s with
 | none=>e=.returned (.tuple #[.agg #[Ze,Zi 0,Zi 0,Zi 0],.bool false])
 | some (k,o)=>e=.returned (.tuple #[.agg #[.string (S s),Zi (rank:Int),Zi (k:Int),Zi (o:Int)],.bool true])
theorem jointOf_any (w:World) (rank:Nat) (s:List UInt8) (hv:JoVar w):Calls Tryz.prog 129 #[Zi (rank:Int),.string (S s)] w fun e w'=>JtP rank s e∧Below w.heap.size w w':=by
 obtain⟨W1,hW1⟩:=nm (w.alloc (.cells #[Ze,Zi 0,Zi 0,Zi 0] 182))
 have hb1:Below w.heap.size w W1:=by rw[hW1];exact bel_al _ _
 have hx1:Row4 W1 w.heap.size (Ze) (Zi 0) (Zi 0) (Zi 0):=by rw[hW1];exact Row4.al _ _ _ _ _
 have hv1:=hv.kept hb1
 have hrg:W1.rangeAt 5 0 joC:=fun j v hj=>by
  have h1:=hv1 j (List.getElem?_eq_some_iff.1 hj).1
  rw[hj] at h1
  rw[Nat.zero_add]
  exact h1
 obtain⟨ja,hja⟩:∃ja:Value,ja=.agg joC.toArray:=⟨_,rfl⟩
 have HIx:Hid (∀i:Nat,i < 18→∀W,(Instr.index 192 ja (Zi (i:Int))).run Tryz.prog W=.ok (.agg #[.string (S jointL[i]!.1),Zi (jointL[i]!.2.1:Int),Zi (jointL[i]!.2.2.1:Int),Zi (jointL[i]!.2.2.2:Int)]) W):=fun i hi W=>by rw[hja];exact joints_index i hi W
 have HB1:=Zh hb1
 have HX1:=Zh hx1
 obtain⟨u,hu⟩:=nm (S s)
 have HU:=Zh hu
 rw[← hu]
 clear hv hv1 hb1 hx1 hu
 go_enter Tryz.func129,Tryz.ntmps129
 go_upto_region 1 with fail
 rw[← hW1]
 clear hW1
 refine wp_region_list ?_
 refine wpList_load_mid rfl 192 (.global 5) rfl 5 0 rfl joC (.array 18 182) hrg (by kernel_rfl) rfl (by kernel_rfl) ?_
 rw[← hja]
 clear hja hrg
 go_wp2_with fail
 go_loopw[9] (fun x wr=>∃(i:Nat),i≤18∧x=Zi (i:Int)∧Hid (Row4 wr w.heap.size (Ze) (Zi 0) (Zi 0) (Zi 0)∧Below w.heap.size w wr∧∀j,j < i→¬(jointL[j]!.2.1=rank∧jointL[j]!.1=s))) (fun x _=>18 - (intOf x).toNat)
 case atStart=>exact⟨0,by omega,rfl,⟨HX1.out,HB1.out,fun j hj=>by omega⟩⟩
 case round=>
  clear HX1 HB1
  obtain⟨i,hi,rfl,HI⟩:=hrel
  by_cases hlt:i < 18
  ·have hiI:(i:Int) < 18:=by omega
   have hix:=HIx.out i hlt
   clear HIx
   obtain⟨p,hp⟩:=nm (jointL[i]!)
   have HP:=Zh hp
   rw[← hp] at hix
   clear hp
   obtain⟨sg,rk,kd,op⟩:=p
   simp only at hix
   have HA:Hid (Row4 (wr.alloc (.cells #[.string (S sg),Zi (rk:Int),Zi (kd:Int),Zi (op:Int)] 182)) wr.heap.size (.string (S sg)) (Zi (rk:Int)) (Zi (kd:Int)) (Zi (op:Int))∧Row4 (wr.alloc (.cells #[.string (S sg),Zi (rk:Int),Zi (kd:Int),Zi (op:Int)] 182)) w.heap.size (Ze) (Zi 0) (Zi 0) (Zi 0)∧Below w.heap.size w (wr.alloc (.cells #[.string (S sg),Zi (rk:Int),Zi (kd:Int),Zi (op:Int)] 182))):=Zh ⟨Row4.al _ _ _ _ _,HI.out.1.kept (bel_al _ _),HI.out.2.1.trans ((bel_al wr _).mono HI.out.2.1.size)⟩
   go_upto_region 4 with fail
   generalize wr.alloc (.cells #[.string (S sg),Zi (rk:Int),Zi (kd:Int),Zi (op:Int)] 182)=W2 at *
   generalize wr.heap.size=B at *
   have g1:=HA.out.1
   have g0:=HA.out.2.1
   obtain⟨⟨x0,x1,x2,x3⟩,_⟩:=g1.cells
   obtain⟨_,y0,y1,y2,y3⟩:=g0.cells
   clear g0 g1 hix
   by_cases h1:rk=rank
   ·subst h1
    by_cases h2:sg=s
    ·subst h2
     have hu:=HU.out
     have hb2:((S sg).toList == u.toList)=true:=by rw[hu];simp
     have HJ:Hid (JtP rk sg (.returned (.tuple #[.agg #[.string (S sg),Zi (rk:Int),Zi (kd:Int),Zi (op:Int)],.bool true]))):=by
      have h3:=jo_hit (rank:=rk) (s:=sg) hlt (fun j hj=>HI.out.2.2 j hj) (by rw[← HP.out]) (by rw[← HP.out])
      rw[← HP.out] at h3
      show JtP _ _ _
      unfold JtP
      rw[h3]
     have HPu:Hid (Row4 (put4 W2 w.heap.size (.string (S sg)) (Zi (rk:Int)) (Zi (kd:Int)) (Zi (op:Int))) w.heap.size (.string (S sg)) (Zi (rk:Int)) (Zi (kd:Int)) (Zi (op:Int))∧Below w.heap.size w (put4 W2 w.heap.size (.string (S sg)) (Zi (rk:Int)) (Zi (kd:Int)) (Zi (op:Int)))):=Zh ⟨HA.out.2.1.put _ _ _ _,put4_below HA.out.2.2 (Nat.le_refl _) _ _ _ _⟩
     clear hu HU HI HP HA
     go_wp2_with fail
     obtain⟨hr,hb⟩:=HPu.out
     obtain⟨⟨d0,d1,d2,d3⟩,_⟩:=hr.cells
     exact bodyPost_ret (v:=.tuple #[.agg #[.string (S sg),Zi (rk:Int),Zi (kd:Int),Zi (op:Int)],.bool true]) (by simp[results,Tryz.results129,go_sem,d0,d1,d2,d3]) rfl ⟨HJ.out,hb⟩
    ·have hu:=HU.out
     have hb2:((S sg).toList == u.toList)=false:=by rw[hu,S_toList,S_toList];simpa using h2
     have HI2:Hid (Row4 W2 w.heap.size (Ze) (Zi 0) (Zi 0) (Zi 0)∧Below w.heap.size w W2∧∀j,j < i+1→¬(jointL[j]!.2.1=rk∧jointL[j]!.1=s)):=Zh ⟨HA.out.2.1,HA.out.2.2,fun j hj=>by
      by_cases hj2:j < i
      ·exact HI.out.2.2 j hj2
      ·obtain rfl:j=i:=by omega
       rw[← HP.out]
       exact fun h=>h2 h.2⟩
     clear hu h2 HI HP HA
     go_wp2_with fail
     go_roundw
     case rel=>exact⟨i+1,by omega,by go_num,HI2⟩
     case measure=>simp[intOf];omega
   ·have hb1:((rk:Int) == (rank:Int))=false:=by simp;omega
    have HI2:Hid (Row4 W2 w.heap.size (Ze) (Zi 0) (Zi 0) (Zi 0)∧Below w.heap.size w W2∧∀j,j < i+1→¬(jointL[j]!.2.1=rank∧jointL[j]!.1=s)):=Zh ⟨HA.out.2.1,HA.out.2.2,fun j hj=>by
     by_cases hj2:j < i
     ·exact HI.out.2.2 j hj2
     ·obtain rfl:j=i:=by omega
      rw[← HP.out]
      exact fun h=>h1 h.1⟩
    have hb3:¬(rk:Int)=(rank:Int):=by omega
    clear h1 HI HP HA
    go_wp2_with fail
    go_roundw
    case rel=>exact⟨i+1,by omega,by go_num,HI2⟩
    case measure=>simp[intOf];omega
  ·have hiI:¬(i:Int) < 18:=by omega
   have HJ:Hid (JtP rank s (.returned (.tuple #[.agg #[Ze,Zi 0,Zi 0,Zi 0],.bool false]))):=by
    show JtP _ _ _
    unfold JtP
    rw[jo_miss (fun j hj=>HI.out.2.2 j (by omega))]
   have HPu:Hid (Row4 (put4 wr w.heap.size (Ze) (Zi 0) (Zi 0) (Zi 0)) w.heap.size (Ze) (Zi 0) (Zi 0) (Zi 0)∧Below w.heap.size w (put4 wr w.heap.size (Ze) (Zi 0) (Zi 0) (Zi 0))):=Zh ⟨HI.out.1.put _ _ _ _,put4_below HI.out.2.1 (Nat.le_refl _) _ _ _ _⟩
   have g0:=HI.out.1
   obtain⟨_,y0,y1,y2,y3⟩:=g0.cells
   clear HI HIx g0
   go_wp2_with fail
   obtain⟨hr,hb⟩:=HPu.out
   obtain⟨⟨d0,d1,d2,d3⟩,_⟩:=hr.cells
   exact bodyPost_ret (v:=.tuple #[.agg #[Ze,Zi 0,Zi 0,Zi 0],.bool false]) (by simp[results,Tryz.results129,go_sem,d0,d1,d2,d3]) rfl ⟨HJ.out,hb⟩
def noB:Nat→Prop:=fun _=>False
def ltB (P:Nat→Prop) (n:Nat):Nat→Prop:=fun k=>P k∧k < n
mutual
theorem ArC.lt {P:Nat→Prop} {W:World} {xs:List Ex} {v:Value} : ArC P W xs v→ArC (ltB P W.heap.size) W xs v
 | .none=>.none
 | .row g xs cs h1 h2 h3=>.row g xs cs ⟨h1,blk_lt h2⟩ h2 (ExsC.lt h3)
theorem ExsC.lt {P:Nat→Prop} {W:World} {xs:List Ex} {cs:List Value} : ExsC P W xs cs→ExsC (ltB P W.heap.size) W xs cs
 | .nil=>.nil
 | .cons k op n nm args p A xs cs h1 h2=>.cons k op n nm args p A xs cs (ArC.lt h1) (ExsC.lt h2)
end
theorem okE_lt {P:Nat→Prop} {x:Ex} {v:Value} {W:World} (h:okE P x v W):okE (ltB P W.heap.size) x v W:=by
 obtain⟨k,op,n,nm,args,p⟩:=x
 obtain⟨A,hv,ha⟩:=h
 exact⟨A,hv,ha.lt⟩
theorem okE_mono {P P':Nat→Prop} {x:Ex} {v:Value} {W:World} (h:okE P x v W) (hp:∀k,P k→k < W.heap.size→P' k):okE P' x v W:=okE_f _ _ _ _ _ _ (okE_lt h) (fun k hk=>hp k hk.1 hk.2) (fun _ _ _=>rfl)
theorem okE_bel {P:Nat→Prop} {x:Ex} {v:Value} {W W':World} (h:okE P x v W) (hb:Below W.heap.size W W'):okE P x v W':=okE_f _ _ _ _ _ _ h (fun _ q=>q) (fun k _ hl=>hb.block k hl)
theorem okE_t1 {P:Nat→Prop} {x:Ex} {v:Value} {W W':World} {sb:Nat} (h:okE P x v W) (ht:T1 sb W W') (hn:∀k,P k→k≠sb):okE P x v W':=okE_f _ _ _ _ _ _ h (fun _ q=>q) (fun k hk hl=>ht.block k hl (hn k hk))
abbrev whV (rc wc:Nat):Value:=.func (.func 107) #[] #[Zp rc,Zp wc]
structure Env (W:World) (rb rc wc:Nat):Prop where
 cr:W.cell? ⟨rc,0,none⟩=some (Zp rb)
 cw:W.cell? ⟨wc,0,none⟩=some (whV rc wc)
 rn:rc≠rb
 wn:wc≠rb
 jo:JoVar W
 jn:5≠rb
theorem T1.cell {sb:Nat} {W W':World} {g o:Nat} {u:Value} (ht:T1 sb W W') (h:W.cell? ⟨g,o,none⟩=some u) (hn:g≠sb):W'.cell? ⟨g,o,none⟩=some u:=by
 have h1:=ht.block g (cell_lt h) hn
 simp only[World.cell?] at h ⊢
 rw[h1];exact h
theorem JoVar.t1 {sb:Nat} {W W':World} (h:JoVar W) (ht:T1 sb W W') (hn:5≠sb):JoVar W':=fun i hi=>by
 have h1:=h i hi
 have h2:joC[i]? = some (joC[i]'(by simpa [joC] using hi)):=List.getElem?_eq_getElem _
 rw[h2] at h1 ⊢
 exact ht.cell h1 hn
theorem Env.t1 {W W':World} {rb rc wc:Nat} (h:Env W rb rc wc) (ht:T1 rb W W'):Env W' rb rc wc:=
 ⟨ht.cell h.cr h.rn,ht.cell h.cw h.wn,h.rn,h.wn,h.jo.t1 ht h.jn,h.jn⟩
structure FS (w W:World) (rb rc wc:Nat) (ts:List Tok) (en:Nat × Nat) (nest:Nat) (v:Value):Prop where
 lt:rb < w.heap.size
 t1:T1 rb w W
 rd:RdB W rb ts en nest v
 env:Env W rb rc wc
abbrev z7 (W:World) (R:Nat):Prop:=Row7 W R (Zi 0) (Zi 0) (Zi 0) (Ze) (Zn) (Zi 0) (Zi 0)
section
variable {w W W':World} {rb rc wc:Nat} {ts ts':List Tok} {en:Nat × Nat} {nest nest':Nat} {v v':Value}
theorem FS.start (hr:RdB w rb ts en nest v) (he:Env w rb rc wc):FS w w rb rc wc ts en nest v:=⟨blk_lt hr.box,T1.bel (Below.refl _ _),hr,he⟩
theorem FS.bel (h:FS w W rb rc wc ts en nest v) (hb:Below W.heap.size W W'):FS w W' rb rc wc ts en nest v:=⟨h.lt,h.t1.trans (T1.bel hb),h.rd.kept hb,h.env.t1 (T1.bel hb)⟩
theorem FS.call (h:FS w W rb rc wc ts en nest v) (ht:T1 rb W W') (hr:RdB W' rb ts' en nest' v'):FS w W' rb rc wc ts' en nest' v':=⟨h.lt,h.t1.trans ht,hr,h.env.t1 ht⟩
theorem FS.al (h:FS w W rb rc wc ts en nest v) (o:Obj):FS w (W.alloc o) rb rc wc ts en nest v:=h.bel (bel_al _ _)
theorem FS.ge (h:FS w W rb rc wc ts en nest v):w.heap.size≤W.heap.size:=h.t1.size
end
theorem res_fin {α:Type} {w W:World} {rb:Nat} {r:List Tok} {en:Nat × Nat} {nest:Nat} {v:Value} {okv:(Nat→Prop)→α→Value→World→Prop} {P P':Nat→Prop} {x:α} {a0 a1 a2 a3 a4 a5 a6 z0 z1 z2 z3 z4 z5 z6:Value} {G:PR α} (hG:G=.ok x r) (hok:OkvF okv) (hrb:rb < w.heap.size) (ht:T1 rb w W) (hz:Row7 W w.heap.size z0 z1 z2 z3 z4 z5 z6) (hx:okv P x (.agg #[a0,a1,a2,a3,a4,a5,a6]) W) (hP:∀k,P k→P' k) (hn:∀k,P k→k≠w.heap.size) (hr:RdB W rb r en nest v) :
  Row7 (put7 W w.heap.size a0 a1 a2 a3 a4 a5 a6) w.heap.size a0 a1 a2 a3 a4 a5 a6∧PrP w rb en nest G (okv P') (.returned (.agg #[a0,a1,a2,a3,a4,a5,a6])) (put7 W w.heap.size a0 a1 a2 a3 a4 a5 a6):=by
 subst hG
 have hp:Below w.heap.size W (put7 W w.heap.size a0 a1 a2 a3 a4 a5 a6):=put7_below (Below.refl _ _) (Nat.le_refl _) _ _ _ _ _ _ _
 refine⟨hz.put _ _ _ _ _ _ _,_,_,rfl,?_,hr.low hp hrb,ht.low hp⟩
 refine hok _ _ _ _ _ _ hx hP (fun k hk hlt=>?_)
 have hk1:=hn k hk
 simp only[put7]
 rw[heap_setCell_other _ _ _ _ hk1,heap_setCell_other _ _ _ _ hk1,heap_setCell_other _ _ _ _ hk1,heap_setCell_other _ _ _ _ hk1,heap_setCell_other _ _ _ _ hk1,heap_setCell_other _ _ _ _ hk1,heap_setCell_other _ _ _ _ hk1]
theorem er_fin {α:Type} {w W:World} {rb:Nat} {en:Nat × Nat} {nest:Nat} {okv:α→Value→World→Prop} {G:PR α} {p:Nat × Nat} {x:Nat} (hG:G=.er p x) (ht:T1 rb w W):PrP w rb en nest G okv (.panicked (fltS p x)) W:=by
 subst hG
 exact⟨rfl,ht⟩
def pCh (en:Nat × Nat) (f nest:Nat) (x:Ex) (r:List Tok):PR Ex:=pOpen en nest r fun ns r1=>(pWh en f ns r1).bind fun y r2=>(pMust en [58] r2).bind fun _ r3=>(pWh en f ns r3).bind fun z r4=>.ok (.mk 10 0 0 [] [x,y,z] (nxtP en r)) r4
theorem pWh_eq (en:Nat × Nat) (f nest:Nat) (ts:List Tok):pWh en (f+1) nest ts=(pJo en f 1 nest ts).bind fun x r=>if nxtT r=[63] then pCh en f nest x r else .ok x r:=by
 simp only[pWh]
 rfl
def setAt (p:Nat × Nat) (x:Ex):Ex:=match x with
 | .mk k o n nm args _=>.mk k o n nm args p
def pTwo (en:Nat × Nat) (f nest:Nat) (ts:List Tok):PR Ex:=(pMust en (if nxtT ts=wMax then wMax else wMin) ts).bind fun _ r=>(pBr en nest [40] [41] r fun ns r1=>(pWh en f ns r1).bind fun x r2=>(pMust en [44] r2).bind fun _ r3=>(pWh en f ns r3).bind fun y r4=>.ok (x,y) r4).bind fun xy r5=>.ok (.mk 7 (if nxtT ts=wMax then 29 else 28) 0 [] [xy.1,xy.2] (0,0)) r5
def pCa (en:Nat × Nat) (f nest:Nat) (ts:List Tok):PR Ex:=
 if nxtT ts=wGet then
  (if nxtT ts.tail=[91] then (pBr en nest [91] [93] ts.tail fun ns r=>pWh en f ns r).bind fun x r=>.ok (.mk 5 0 0 [] [x] (0,0)) r
   else (pBr en nest [40] [41] ts.tail fun _ r=>pName en r).bind fun n r=>.ok (.mk 3 0 0 n.1 [] (0,0)) r)
 else if nxtT ts=wHas then (pBr en nest [40] [41] ts.tail fun _ r=>pName en r).bind fun n r=>.ok (.mk 4 0 0 n.1 [] (0,0)) r
 else pTwo en f nest ts
theorem PR.bind_assoc {α β γ:Type} (a:PR α) (f:α→List Tok→PR β) (g:β→List Tok→PR γ):(a.bind f).bind g=a.bind fun x r=>(f x r).bind g:=by cases a <;> rfl
theorem pPr_eq (en:Nat × Nat) (f nest:Nat) (ts:List Tok):pPr en (f+1) nest ts =
  if nxtK ts=3 then .ok (.mk 1 0 (nxtN ts) [] [] (nxtP en ts)) ts.tail
  else if nxtK ts=1 then .ok (.mk 2 0 0 (nxtT ts) [] (nxtP en ts)) ts.tail
  else if nxtT ts=[40] then pBr en nest [40] [41] ts fun ns r=>pWh en f ns r
  else (pCa en f nest ts).bind fun x r=>.ok (setAt (nxtP en ts) x) r:=by
 simp only[pPr]
 split
 ·rfl
 ·split
  ·rfl
  ·split
   ·rfl
   ·unfold pCa
    split
    ·split
     ·rw[PR.bind_assoc];rfl
     ·rw[PR.bind_assoc];rfl
    ·split
     ·rw[PR.bind_assoc];rfl
     ·unfold pTwo
      rw[PR.bind_assoc]
      congr 1
      funext _ r
      rw[PR.bind_assoc];rfl
def CW (rb rc wc:Nat) (en:Nat × Nat) (f:Nat):Prop:=∀(U:World) (ts:List Tok) (nest:Nat) (v:Value),RdB U rb ts en nest v→nest≤200→Env U rb rc wc→pWh en f nest ts≠.er (0,0) 0→Calls Tryz.prog 107 #[Zp rc,Zp wc] U (PrP U rb en nest (pWh en f nest ts) (okE (New noB U.heap.size)))
def CJ (rb rc wc:Nat) (en:Nat × Nat) (f:Nat):Prop:=∀(U:World) (rank:Nat) (ts:List Tok) (nest:Nat) (v:Value),RdB U rb ts en nest v→nest≤200→Env U rb rc wc→1≤rank→rank≤10→pJo en f rank nest ts≠.er (0,0) 0→Calls Tryz.prog 108 #[Zp rb,Zi (rank:Int),whV rc wc] U (PrP U rb en nest (pJo en f rank nest ts) (okE (New noB U.heap.size)))
def CU (rb rc wc:Nat) (en:Nat × Nat) (f:Nat):Prop:=∀(U:World) (ts:List Tok) (nest:Nat) (v:Value),RdB U rb ts en nest v→nest≤200→Env U rb rc wc→pUn en f nest ts≠.er (0,0) 0→Calls Tryz.prog 128 #[Zp rb,whV rc wc] U (PrP U rb en nest (pUn en f nest ts) (okE (New noB U.heap.size)))
def CP (rb rc wc:Nat) (en:Nat × Nat) (f:Nat):Prop:=∀(U:World) (ts:List Tok) (nest:Nat) (v:Value),RdB U rb ts en nest v→nest≤200→Env U rb rc wc→pPr en f nest ts≠.er (0,0) 0→Calls Tryz.prog 144 #[Zp rb,whV rc wc] U (PrP U rb en nest (pPr en f nest ts) (okE (New noB U.heap.size)))
def CCa (rb rc wc:Nat) (en:Nat × Nat) (f:Nat):Prop:=∀(U:World) (ts:List Tok) (nest:Nat) (v:Value),RdB U rb ts en nest v→nest≤200→Env U rb rc wc→pCa en f nest ts≠.er (0,0) 0→Calls Tryz.prog 152 #[Zp rb,whV rc wc] U (PrP U rb en nest (pCa en f nest ts) (okE (New noB U.heap.size)))
def CTwo (rb rc wc:Nat) (en:Nat × Nat) (f:Nat):Prop:=∀(U:World) (ts:List Tok) (nest:Nat) (v:Value),RdB U rb ts en nest v→nest≤200→Env U rb rc wc→pTwo en f nest ts≠.er (0,0) 0→Calls Tryz.prog 161 #[Zp rb,whV rc wc] U (PrP U rb en nest (pTwo en f nest ts) (okE (New noB U.heap.size)))
def CC (rb rc wc:Nat) (en:Nat × Nat) (f:Nat):Prop:=∀(U:World) (Q:Nat→Prop) (x:Ex) (xv:Value) (ts:List Tok) (nest:Nat) (v:Value),RdB U rb ts en nest v→ts≠[]→nest≤200→Env U rb rc wc→okE Q x xv U→(∀k,Q k→k < U.heap.size∧k≠rb)→pCh en f nest x ts≠.er (0,0) 0→Calls Tryz.prog 109 #[Zp rb,xv,whV rc wc] U (PrP U rb en nest (pCh en f nest x ts) (okE (New Q U.heap.size)))
end Go.Proofs.YtlfooogmoigpfaaGreatDoor
