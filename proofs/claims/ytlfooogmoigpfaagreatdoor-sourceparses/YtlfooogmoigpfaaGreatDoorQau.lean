import Derived.Deep.CutBlock
import Derived.Test.YtlfooogmoigpfaaGreatDoorQat
import Derived.Test.YtlfooogmoigpfaaGreatDoorQas
import Derived.Test.YtlfooogmoigpfaaGreatDoorQaa
set_option maxRecDepth 100000
set_option maxHeartbeats 8000000
namespace Go.Proofs.YtlfooogmoigpfaaGreatDoor
open Go.RowKit Go.Sort Go.Shelf
theorem must_toks {en:Nat × Nat} {s:List UInt8} {ts r:List Tok} {u:Unit} (h:pMust en s ts=.ok u r) (ht:TksOk ts):TksOk r:=by
 unfold pMust at h
 split at h
 ·cases h;exact ht.tail
 ·cases h
theorem name_toks {en:Nat × Nat} {ts r:List Tok} {x:NmP} (h:pName en ts=.ok x r) (ht:TksOk ts):TksOk r:=by
 unfold pName at h
 split at h
 ·cases h;exact ht.tail
 ·cases h
theorem op_toks {en:Nat × Nat} {n:Nat} {s:List UInt8} {ts r:List Tok} {u:Unit} (h:pOp en n s ts=.ok u r) (ht:TksOk ts):TksOk r:=by
 unfold pOp at h
 split at h
 ·split at h
  ·cases h
  ·cases h;exact ht.tail
 ·cases h
theorem ns_toks (en:Nat × Nat):∀f acc ts x r,pNs en f acc ts=.ok x r→TksOk ts→TksOk r
 | 0,_,_,_,_,h,_=>by simp only[pNs] at h;cases h
 | f+1,acc,ts,x,r,h,ht=>by
  simp only[pNs] at h
  split at h
  ·obtain⟨nm,r1,h1,h2⟩:=PR.bind_inv h
   exact ns_toks en f _ r1 x r h2 (name_toks h1 ht.tail)
  ·cases h;exact ht
theorem names_toks {en:Nat × Nat} {ts r:List Tok} {x:List NmP} (h:pNames en ts=.ok x r) (ht:TksOk ts):TksOk r:=by
 unfold pNames at h
 obtain⟨nm,r1,h1,h2⟩:=PR.bind_inv h
 exact ns_toks en _ _ r1 x r h2 (name_toks h1 ht)
theorem like5 (s1:PR NmP) (fo fm:List Tok→PR Unit) (fa fr fw:List Tok→PR (List NmP)) (fb:List Tok→PR (List St)) (s2 s4:PR Unit) (s3 s5 s6:PR (List NmP)) (s7:PR (List St)) (G:PR PrS)
  (h2:s2=s1.bind fun _ t=>fo t) (h3:s3=s2.bind fun _ t=>fa t) (h4:s4=s3.bind fun _ t=>fm t) (h5:s5=s4.bind fun _ t=>fr t) (h6:s6=s5.bind fun _ t=>fw t) (h7:s7=s6.bind fun _ t=>fb t)
  (hG:G=s1.bind fun nm t=>(fo t).bind fun _ t=>(fa t).bind fun ags t=>(fm t).bind fun _ t=>(fr t).bind fun rs t=>(fw t).bind fun ws t=>(fb t).bind fun b t=>.ok ⟨nm.1,ags,rs,ws,b,nm.2⟩ t) :
  Like (toU s7) G∧∀X r,G=.ok X r→∃nm ags rs ws b,(∃r,s1=.ok nm r)∧(∃r,s3=.ok ags r)∧(∃r,s5=.ok rs r)∧(∃r,s6=.ok ws r)∧(∃r,s7=.ok b r)∧X=⟨nm.1,ags,rs,ws,b,nm.2⟩:=by
 have er:∀{p:Nat × Nat} {e:Nat},s7=.er p e→G=.er p e→Like (toU s7) G∧∀X r,G=.ok X r→∃nm ags rs ws b,(∃r,s1=.ok nm r)∧(∃r,s3=.ok ags r)∧(∃r,s5=.ok rs r)∧(∃r,s6=.ok ws r)∧(∃r,s7=.ok b r)∧X=⟨nm.1,ags,rs,ws,b,nm.2⟩:=fun {p e} ha hb=>by
  rw[ha,hb]
  exact⟨like_er p e,fun _ _ h=>by cases h⟩
 cases hn:s1 with
 | er p e=>
  subst hn
  exact er (by rw[h7,h6,h5,h4,h3,h2];rfl) (by rw[hG];rfl)
 | ok nm t1=>
  rw[hn,PR.bind_ok] at h2 hG
  cases ho:fo t1 with
  | er p e=>
   rw[ho] at h2 hG
   have:=er (by rw[h7,h6,h5,h4,h3,h2];rfl) (by rw[hG];rfl)
   rw[hn] at this
   exact this
  | ok u t2=>
   rw[ho] at h2 hG
   rw[h2,PR.bind_ok] at h3
   rw[PR.bind_ok] at hG
   cases ha:fa t2 with
   | er p e=>
    rw[ha] at h3 hG
    have:=er (by rw[h7,h6,h5,h4,h3];rfl) (by rw[hG];rfl)
    rw[hn] at this
    exact this
   | ok ags t3=>
    rw[ha] at h3 hG
    rw[h3,PR.bind_ok] at h4
    rw[PR.bind_ok] at hG
    cases hm:fm t3 with
    | er p e=>
     rw[hm] at h4 hG
     have:=er (by rw[h7,h6,h5,h4];rfl) (by rw[hG];rfl)
     rw[hn] at this
     exact this
    | ok u2 t4=>
     rw[hm] at h4 hG
     rw[h4,PR.bind_ok] at h5
     rw[PR.bind_ok] at hG
     cases hr:fr t4 with
     | er p e=>
      rw[hr] at h5 hG
      have:=er (by rw[h7,h6,h5];rfl) (by rw[hG];rfl)
      rw[hn] at this
      exact this
     | ok rs t5=>
      rw[hr] at h5 hG
      rw[h5,PR.bind_ok] at h6
      rw[PR.bind_ok] at hG
      cases hw:fw t5 with
      | er p e=>
       rw[hw] at h6 hG
       have:=er (by rw[h7,h6];rfl) (by rw[hG];rfl)
       rw[hn] at this
       exact this
      | ok ws t6=>
       rw[hw] at h6 hG
       rw[h6,PR.bind_ok] at h7
       rw[PR.bind_ok] at hG
       cases hb:fb t6 with
       | er p e=>
        rw[hb] at h7 hG
        have:=er h7 (by rw[hG];rfl)
        rw[hn] at this
        exact this
       | ok b t7=>
        rw[hb] at h7 hG
        rw[PR.bind_ok] at hG
        rw[h7,hG,h3,h5,h6]
        exact⟨like_ok _ _ _,fun X r h=>by cases h;exact⟨nm,ags,rs,ws,b,⟨t1,rfl⟩,⟨t3,rfl⟩,⟨t5,rfl⟩,⟨t6,rfl⟩,⟨t7,rfl⟩,rfl⟩⟩
def faP (en:Nat × Nat) (r1:List Tok):PR (List NmP):=if nxtT r1=[41] then .ok [] r1 else pNames en r1
theorem fa_toks {en:Nat × Nat} {ts r:List Tok} {x:List NmP} (h:faP en ts=.ok x r) (ht:TksOk ts):TksOk r:=by
 unfold faP at h
 split at h
 ·cases h;exact ht
 ·exact names_toks h ht
theorem opt_toks {en:Nat × Nat} {wd:List UInt8} {ts r:List Tok} {x:List NmP} (h:pOpt en wd ts=.ok x r) (ht:TksOk ts):TksOk r:=by
 unfold pOpt at h
 split at h
 ·exact names_toks h ht.tail
 ·cases h;exact ht
theorem opt_case {α:Type} {en:Nat × Nat} {wd:List UInt8} {s:PR α} (hk:wd∈kwL) (hs:∀y r,s=.ok y r→TksOk r) :
  (pkS s=wd∧(s.bind fun _ t=>pOpt en wd t)=s.bind fun _ r=>pNames en r.tail)∨(¬pkS s=wd∧(s.bind fun _ t=>pOpt en wd t)=s.bind fun _ r=>.ok [] r):=by
 cases s with
 | er p e=>exact .inr ⟨fun h=>kw_ne wd hk h.symm,rfl⟩
 | ok y r=>
  have ht:=hs y r rfl
  rw[PR.bind_ok,PR.bind_ok,PR.bind_ok]
  unfold pOpt
  by_cases h:nxtT r=wd
  ·exact .inl ⟨pk_of ht hk (kw_ne wd hk) h,by rw[if_pos h]⟩
  ·exact .inr ⟨pk_ne ht hk (kw_ne wd hk) h,by rw[if_neg h]⟩
theorem dproc_any {pb:Nat} {al:Value} {L:List Tok} {en:Nat × Nat} (hL:TksOk L) (hlen:L.length≤70000) (w:World) (ts:List Tok) (hds:DS w pb al L en 0 (PR.ok () ts:PR Unit)):Calls Tryz.prog 36 #[Zp pb] w (DP A7d w pb al L en 0 (pProc en ts) (okPr (New noB w.heap.size))):=by
 have ht:=hds.toks hL
 obtain⟨s1,hs1⟩:∃z:PR NmP,z=pName en ts:=⟨_,rfl⟩
 obtain⟨s2,hs2⟩:∃z:PR Unit,z=s1.bind fun _ t=>pOp en 0 [40] t:=⟨_,rfl⟩
 obtain⟨s3,hs3⟩:∃z:PR (List NmP),z=s2.bind fun _ t=>faP en t:=⟨_,rfl⟩
 obtain⟨s4,hs4⟩:∃z:PR Unit,z=s3.bind fun _ t=>pMust en [41] t:=⟨_,rfl⟩
 obtain⟨s5,hs5⟩:∃z:PR (List NmP),z=s4.bind fun _ t=>pOpt en wReads t:=⟨_,rfl⟩
 obtain⟨s6,hs6⟩:∃z:PR (List NmP),z=s5.bind fun _ t=>pOpt en wWrites t:=⟨_,rfl⟩
 obtain⟨s7,hs7⟩:∃z:PR (List St),z=s6.bind fun _ t=>pBlk en 0 t:=⟨_,rfl⟩
 have t2:∀y r,s2=.ok y r→TksOk r:=fun y r e=>by
  rw[hs2] at e
  obtain⟨x,t,e1,e2⟩:=PR.bind_inv e
  exact op_toks e2 (name_toks (hs1.symm.trans e1) ht)
 have t3:∀y r,s3=.ok y r→TksOk r:=fun y r e=>by
  rw[hs3] at e
  obtain⟨x,t,e1,e2⟩:=PR.bind_inv e
  exact fa_toks e2 (t2 _ _ e1)
 have t4:∀y r,s4=.ok y r→TksOk r:=fun y r e=>by
  rw[hs4] at e
  obtain⟨x,t,e1,e2⟩:=PR.bind_inv e
  exact must_toks e2 (t3 _ _ e1)
 have t5:∀y r,s5=.ok y r→TksOk r:=fun y r e=>by
  rw[hs5] at e
  obtain⟨x,t,e1,e2⟩:=PR.bind_inv e
  exact opt_toks e2 (t4 _ _ e1)
 have hk:=like5 s1 (fun t=>pOp en 0 [40] t) (fun t=>pMust en [41] t) (fun t=>faP en t) (fun t=>pOpt en wReads t) (fun t=>pOpt en wWrites t) (fun t=>pBlk en 0 t) s2 s4 s3 s5 s6 s7 (pProc en ts) hs2 hs3 hs4 hs5 hs6 hs7 (by
  unfold pProc
  rw[hs1]
  congr 1
  funext nm r
  rw[pBr_op]
  simp only[PR.bind_assoc,PR.bind_ok]
  rfl)
 generalize pProc en ts=G at *
 obtain⟨hK,hV⟩:=hk
 have cr:=opt_case (en:=en) (wd:=wReads) (s:=s4) (by decide) t4
 have cw:=opt_case (en:=en) (wd:=wWrites) (s:=s5) (by decide) t5
 rw[← hs5] at cr
 rw[← hs6] at cw
 obtain⟨zD,hzD⟩:=nm (Obj.cells #[Ze,Zn,Zn,Zn,Zn,Zi 0,Zi 0] 73 (0,0))
 have H3:Hid ((∃q:(Nat × Nat) × Nat,s2=.er q.1 q.2∧s3=s2.bind fun _ r=>.ok [] r)∨∃r1,s2=.ok () r1∧(pkS (PR.ok () r1:PR Unit)=[41]∧s3=(s2.bind fun _ r=>.ok [] r)∨¬pkS (PR.ok () r1:PR Unit)=[41]∧s3=pNames en r1)):=Zh (by
  cases h2:s2 with
  | er p e=>exact .inl ⟨(p,e),rfl,by rw[hs3,h2];rfl⟩
  | ok u r1=>
   have hr1:=t2 _ _ h2
   refine .inr ⟨r1,rfl,?_⟩
   rw[hs3,h2,PR.bind_ok,PR.bind_ok]
   unfold faP
   by_cases hq:nxtT r1=[41]
   ·exact .inl ⟨pk_of hr1 (by decide) (by decide) hq,if_pos hq⟩
   ·exact .inr ⟨pk_ne hr1 (by decide) (by decide) hq,if_neg hq⟩)
 have HCr:=Zh cr
 have HCw:=Zh cw
 have HT:=Zh (And.intro t4 t5)
 have HK:=Zh (And.intro hK hV)
 clear cr cw t2 t3 t4 t5 hK hV ht hs3 hs5 hs6
 obtain⟨u1,hu1⟩:=nm (w.alloc (.cells #[Ze,Zn,Zn,Zn,Zn,Zi 0,Zi 0] 73))
 have hb0:Below w.heap.size w u1:=by rw[hu1];exact bel_al _ _
 have HQ:=Zh ((DQ.start hds).bel hb0)
 have HR:Hid (u1.heap[w.heap.size]? = some zD):=Zh (by rw[hu1,hzD];exact heap_alloc_new _ _ rfl)
 clear hb0 hds
 go_enter Tryz.func36,Tryz.ntmps36
 go_upto_region 1 with fail
 rw[← hu1]
 clear hu1
 go_wp2_with fail
 refine (show Calls Tryz.prog 33 #[Zp pb] u1 (DP A3 u1 pb al L en 0 s1 (okN (New noB u1.heap.size))) from by rw[hs1];exact dname_any u1 pb al L en 0 hlen (PR.ok () ts:PR Unit) HQ.out.ds).mono ?_
 rintro e u2 ⟨_,rfl,⟨xs,xl,xm,rfl⟩,hds,ht,hv⟩
 have HVn:Hid (∀x r,s1=.ok x r→xs=S x.1∧xl=(x.2.1:Int)∧xm=(x.2.2:Int)):=Zh fun x r e=>nm_text (hv x r e)
 have hl:=blk_lt HR.out
 obtain⟨u3,hu3⟩:=nm (u2.alloc (.cells #[.string xs,Zi xl,Zi xm] 89))
 obtain⟨BX,hBX⟩:=nm u2.heap.size
 have hb:Below u2.heap.size u2 u3:=by rw[hu3];exact bel_al _ _
 have HX:Hid (Row3 u3 BX (.string xs) (Zi xl) (Zi xm)):=Zh (by rw[hu3,hBX];exact heap_alloc_new _ _ rfl)
 have hz:=(hb.block _ (Nat.lt_of_lt_of_le hl ht.size)).trans ((ht.block _ hl (Nat.ne_of_gt HQ.out.lt)).trans HR.out)
 have HQ3:=Zh ((HQ.out.call ht hds).bel hb)
 obtain⟨u4,hu4⟩:=nm (u3.alloc (.cells #[.string xs,Zn,Zn,Zn,Zn,Zi xl,Zi xm] 73))
 obtain⟨BD,hBD⟩:=nm u3.heap.size
 have hb4:Below u3.heap.size u3 u4:=by rw[hu4];exact bel_al _ _
 have hd:u4.heap[BD]? = some (.cells #[.string xs,Zn,Zn,Zn,Zn,Zi xl,Zi xm] 73 (0,0)):=by rw[hu4,hBD];exact heap_alloc_new _ _ rfl
 have HS:Hid (PQ w u4 pb al L en 0 s1 w.heap.size BD zD (.cells #[.string xs,Zn,Zn,Zn,Zn,Zi xl,Zi xm] 73 (0,0))):=Zh ⟨HQ3.out.bel hb4,Nat.le_refl _,by have:=blk_lt hz;omega,blk_lt hd,(hb4.block _ (blk_lt hz)).trans hz,hd⟩
 clear hv hl hb hz HQ HQ3 HR hb4 hd hds ht
 go_upto_region 2 with fail
 rw[← hu3,← hBX]
 clear hu3 hBX
 obtain⟨⟨x0,x1,x2⟩,_⟩:=HX.out.cells
 go_upto_region 3 with fail
 rw[← hu4,← hBD]
 clear hu4 hBD x0 x1 x2 HX
 go_wp2_with fail
 refine (show Calls Tryz.prog 58 #[Zp pb,.string ⟨#[40]⟩] u4 (fun e w'=>e=.returned (.tuple #[])∧DS w' pb al L en 1 s2∧T1 pb u4 w') from by rw[hs2,← toU_bind];exact dopens_any u4 pb al L en 0 (toU s1) [40] hL hlen (by omega) (by decide) HS.out.q.ds.toU).mono ?_
 rintro e u5 ⟨rfl,hds,ht⟩
 replace HS:=Zh (HS.out.call ht hds)
 clear ht hds hs1 hs2
 go_upto_region 4 with fail
 go_cut[24] (fun v wx=>∃b:Bool,v=.bool b∧Hid (PQ w wx pb al L en 1 s2 w.heap.size BD zD (.cells #[.string xs,Zn,Zn,Zn,Zn,Zi xl,Zi xm] 73 (0,0)))∧Hid ((b=true→∃r1,s2=.ok () r1∧s3=pNames en r1)∧(b=false→s3=s2.bind fun _ r=>.ok [] r)))
 case first=>
  rcases H3.out with ⟨q,hA,h3⟩ | ⟨r1,hA,h3⟩
  ·have hd9:=HS.out.q.ds
   rw[hA] at hd9
   obtain⟨h0,k,h1,h3',h4⟩:=hd9
   obtain⟨_,_,_,_,_,_,c6,_⟩:=h3'.cells
   obtain⟨xi,hxi⟩:=nm (q.2:Int)
   rw[← hxi] at c6
   have hd:(xi == 0)=false:=by simp;omega
   clear hxi h0 h1 h3' h4
   have HZ:=Zh h3
   clear hA h3
   go_wp2_with fail
   go_meet
   exact⟨false,rfl,HS,Zh ⟨fun h=>(by cases h),fun _=>HZ.out⟩⟩
  ·have hd9:=HS.out.q.ds
   rw[hA] at hd9
   have c6:u5.cell? ⟨pb,6,none⟩=some (Zi 0):=by obtain⟨_,k,_,_,h3,_⟩:=hd9;exact h3.cells.2.2.2.2.2.2.1
   have hpk:=peek_any u5 pb al L en 1 (PR.ok () r1:PR Unit) hd9
   clear hd9
   rcases h3 with ⟨hpe,h3⟩ | ⟨hpe,h3⟩
   ·rw[hpe] at hpk
    have HZ:=Zh h3
    clear hA h3 hpe
    have HPk:Hid (Calls Tryz.prog 56 #[Zp pb] u5 (fun e w2=>e=.returned (.string ⟨#[41]⟩)∧Below u5.heap.size u5 w2)):=Zh hpk
    clear hpk
    go_wp2_with fail
    refine HPk.out.mono ?_
    rintro e u6 ⟨rfl,hb⟩
    have HS6:=Zh (HS.out.bel hb)
    clear hb c6
    go_wp2_with fail
    go_meet
    exact⟨false,rfl,HS6,Zh ⟨fun h=>(by cases h),fun _=>HZ.out⟩⟩
   ·obtain⟨tx,htx⟩:∃tx,tx=S (pkS (PR.ok () r1:PR Unit)):=⟨_,rfl⟩
    have q41:(tx.toList == [41])=false:=by rw[htx,S_toList];simpa using hpe
    rw[← htx] at hpk
    have HZ:=Zh (And.intro hA h3)
    clear htx hA h3 hpe
    have HPk:=Zh hpk
    clear hpk
    go_wp2_with fail
    refine HPk.out.mono ?_
    rintro e u6 ⟨rfl,hb⟩
    have HS6:=Zh (HS.out.bel hb)
    clear hb c6
    go_wp2_with fail
    go_meet
    exact⟨true,rfl,HS6,Zh ⟨fun _=>⟨r1,HZ.out⟩,fun h=>(by cases h)⟩⟩
 obtain⟨b,rfl,HS,HZ⟩:=hcut
 clear H3
 go_upto_if 24 with fail
 go_cut[] (fun wx=>∃aa aq ac,Hid (PQ w wx pb al L en 1 s3 w.heap.size BD zD (.cells #[.string xs,.slice aa aq ac,Zn,Zn,Zn,Zi xl,Zi xm] 73 (0,0)))∧Hid (OV okNs (NB w.heap.size BD) s3 (.slice aa aq ac) wx))
 case first=>
  cases b with
  | false=>
   have h3:=HZ.out.2 rfl
   have HG:=Zh (And.intro (show PQ w wc pb al L en 1 s3 w.heap.size BD zD (.cells #[.string xs,Zn,Zn,Zn,Zn,Zi xl,Zi xm] 73 (0,0)) from by rw[h3];exact HS.out.like (like_unit s2 _)) (show OV okNs (NB w.heap.size BD) s3 (Zn) wc from fun x r e=>by rw[h3] at e;obtain⟨_,_,_,e9⟩:=PR.bind_inv e;simp only[PR.ok.injEq] at e9;rw[← e9.1];exact okNs_nil _ _))
   clear h3
   go_wp2_with fail
   go_meet
   exact⟨none,0,0,Zh HG.out.1,Zh HG.out.2⟩
  | true=>
   obtain⟨r1,h2,h3⟩:=HZ.out.1 rfl
   have hd9:=HS.out.q.ds
   rw[h2] at hd9
   have HJ:=Zh (show Calls Tryz.prog 59 #[Zp pb] wc (DP ASl wc pb al L en 1 s3 (okNs (New noB wc.heap.size))) from by rw[h3];exact dnames_any hL hlen wc r1 1 hd9)
   clear hd9 h2 h3
   go_wp2_with fail
   refine HJ.out.mono ?_
   rintro e u7 ⟨_,rfl,⟨aa,aq,ac,rfl⟩,hds,ht,hv⟩
   have HS7:=Zh (HS.out.call ht hds)
   have HV7:=Zh (HS.out.val okNs_f hv)
   obtain⟨_,e1,_⟩:=RowD.cells HS7.out.d
   obtain⟨_,f1,_⟩:=RowD.frz HS7.out.d
   clear hds ht hv HJ
   go_wp2_with fail
   go_meet
   exact⟨aa,aq,ac,Zh (HS7.out.set 1 _),Zh (HV7.out.set okNs_f)⟩
 obtain⟨aa,aq,ac,HS,HVa⟩:=hcut
 clear HZ
 go_wp2_with fail
 refine (show Calls Tryz.prog 60 #[Zp pb,.string ⟨#[41]⟩] wc (fun e w'=>e=.returned (.tuple #[])∧DS w' pb al L en 0 s4∧T1 pb wc w') from by rw[hs4,← toU_bind];exact dcloses_any wc pb al L en 0 (toU s3) [41] hL hlen (by omega) (by decide) HS.out.q.ds.toU).mono ?_
 rintro e u8 ⟨rfl,hds,ht⟩
 replace HVa:=Zh (HVa.out.t1 okNs_f ht HS.out.ne)
 replace HS:=Zh (HS.out.call ht hds)
 clear ht hds hs4
 obtain⟨b,hb⟩:=nm (decide (pkS s4=wReads))
 have HZ:Hid ((b=true→∃y r,s4=.ok y r∧(pkS s4=wReads)∧s5=pNames en r.tail)∧(b=false→¬pkS s4=wReads∧s5=s4.bind fun _ r=>.ok [] r)):=Zh (by
  rw[hb]
  rcases HCr.out with ⟨h,e5⟩ | ⟨h,e5⟩
  ·rw[decide_eq_true h]
   refine⟨fun _=>?_,fun h=>(by cases h)⟩
   obtain⟨y,r,e9,_⟩:=pkS_ok HS.out.q.ds hL (by decide) h
   exact⟨y,r,e9,by exact h,by rw[e5,e9];rfl⟩
  ·rw[decide_eq_false h]
   exact⟨fun h=>(by cases h),fun _=>⟨by exact h,e5⟩⟩)
 have HJ:=Zh (show Calls Tryz.prog 32 #[Zp pb,.string ⟨#[114,101,97,100,115]⟩] u8 (fun e w'=>e=.returned (.bool b)∧DS w' pb al L en 0 (if pkS s4=wReads then s4.bind fun _ ts=>.ok () ts.tail else s4)∧T1 pb u8 w') from by rw[hb];exact dis_any u8 pb al L en 0 s4 wReads hL hlen (by decide) HS.out.q.ds)
 clear hb
 go_wp2_with fail
 refine HJ.out.mono ?_
 rintro e u9 ⟨rfl,hds,ht⟩
 replace HVa:=Zh (HVa.out.t1 okNs_f ht HS.out.ne)
 replace HS:=Zh (HS.out.call ht hds)
 clear ht hds HJ
 go_upto_if 31 with fail
 go_cut[] (fun wx=>∃ra rq rc,Hid (PQ w wx pb al L en 0 s5 w.heap.size BD zD (.cells #[.string xs,.slice aa aq ac,.slice ra rq rc,Zn,Zn,Zi xl,Zi xm] 73 (0,0)))∧Hid (OV okNs (NB w.heap.size BD) s5 (.slice ra rq rc) wx)∧Hid (OV okNs (NB w.heap.size BD) s3 (.slice aa aq ac) wx))
 case first=>
  cases b with
  | false=>
   obtain⟨h4,h5⟩:=HZ.out.2 rfl
   have hs9:=HS.out
   rw[if_neg h4] at hs9
   have HG:=Zh (And.intro (show PQ w u9 pb al L en 0 s5 w.heap.size BD zD (.cells #[.string xs,.slice aa aq ac,Zn,Zn,Zn,Zi xl,Zi xm] 73 (0,0)) from by rw[h5];exact hs9.like (by cases s4 with | er p e=>exact like_er p e | ok y r=>exact like_ok _ _ _)) (show OV okNs (NB w.heap.size BD) s5 (Zn) u9 from fun x r e=>by rw[h5] at e;obtain⟨_,_,_,e9⟩:=PR.bind_inv e;simp only[PR.ok.injEq] at e9;rw[← e9.1];exact okNs_nil _ _))
   clear h4 h5 hs9
   go_wp2_with fail
   go_meet
   exact⟨none,0,0,Zh HG.out.1,Zh HG.out.2,HVa⟩
  | true=>
   obtain⟨y,r9,e9,h4,h5⟩:=HZ.out.1 rfl
   have hd9:=HS.out.q.ds
   rw[if_pos h4,e9,PR.bind_ok] at hd9
   have HJ:=Zh (show Calls Tryz.prog 59 #[Zp pb] u9 (DP ASl u9 pb al L en 0 s5 (okNs (New noB u9.heap.size))) from by rw[h5];exact dnames_any hL hlen u9 r9.tail 0 hd9)
   clear hd9 e9 h4 h5
   go_wp2_with fail
   refine HJ.out.mono ?_
   rintro e u7 ⟨_,rfl,⟨ra,rq,rc,rfl⟩,hds,ht,hv⟩
   have HS7:=Zh (HS.out.call ht hds)
   have HV7:=Zh (HS.out.val okNs_f hv)
   replace HVa:=Zh (HVa.out.t1 okNs_f ht HS.out.ne)
   obtain⟨_,_,e1,_⟩:=RowD.cells HS7.out.d
   obtain⟨_,_,f1,_⟩:=RowD.frz HS7.out.d
   clear hds ht hv HJ
   go_wp2_with fail
   go_meet
   exact⟨ra,rq,rc,Zh (HS7.out.set 2 _),Zh (HV7.out.set okNs_f),Zh (HVa.out.set okNs_f)⟩
 obtain⟨ra,rq,rc,HS,HVr,HVa⟩:=hcut
 clear HZ
 obtain⟨b,hb⟩:=nm (decide (pkS s5=wWrites))
 have HZ:Hid ((b=true→∃y r,s5=.ok y r∧(pkS (toU s5)=wWrites)∧s6=pNames en r.tail)∧(b=false→¬pkS (toU s5)=wWrites∧s6=s5.bind fun _ r=>.ok [] r)):=Zh (by
  rw[hb]
  rcases HCw.out with ⟨h,e5⟩ | ⟨h,e5⟩
  ·rw[decide_eq_true h]
   refine⟨fun _=>?_,fun h=>(by cases h)⟩
   obtain⟨y,r,e9,_⟩:=pkS_ok HS.out.q.ds hL (by decide) h
   exact⟨y,r,e9,by rw[pkS_toU];exact h,by rw[e5,e9];rfl⟩
  ·rw[decide_eq_false h]
   exact⟨fun h=>(by cases h),fun _=>⟨by rw[pkS_toU];exact h,e5⟩⟩)
 have HJ:=Zh (show Calls Tryz.prog 32 #[Zp pb,.string ⟨#[119,114,105,116,101,115]⟩] wc (fun e w'=>e=.returned (.bool b)∧DS w' pb al L en 0 (if pkS (toU s5)=wWrites then (toU s5).bind fun _ ts=>.ok () ts.tail else (toU s5))∧T1 pb wc w') from by rw[hb,← pkS_toU];exact dis_any wc pb al L en 0 (toU s5) wWrites hL hlen (by decide) HS.out.q.ds.toU)
 clear hb
 go_wp2_with fail
 refine HJ.out.mono ?_
 rintro e u9 ⟨rfl,hds,ht⟩
 replace HVa:=Zh (HVa.out.t1 okNs_f ht HS.out.ne)
 replace HVr:=Zh (HVr.out.t1 okNs_f ht HS.out.ne)
 replace HS:=Zh (HS.out.call ht hds)
 clear ht hds HJ
 go_upto_if 36 with fail
 go_cut[] (fun wx=>∃va vq vc,Hid (PQ w wx pb al L en 0 s6 w.heap.size BD zD (.cells #[.string xs,.slice aa aq ac,.slice ra rq rc,.slice va vq vc,Zn,Zi xl,Zi xm] 73 (0,0)))∧Hid (OV okNs (NB w.heap.size BD) s6 (.slice va vq vc) wx)∧Hid (OV okNs (NB w.heap.size BD) s3 (.slice aa aq ac) wx)∧Hid (OV okNs (NB w.heap.size BD) s5 (.slice ra rq rc) wx))
 case first=>
  cases b with
  | false=>
   obtain⟨h4,h5⟩:=HZ.out.2 rfl
   have hs9:=HS.out
   rw[if_neg h4] at hs9
   have HG:=Zh (And.intro (show PQ w u9 pb al L en 0 s6 w.heap.size BD zD (.cells #[.string xs,.slice aa aq ac,.slice ra rq rc,Zn,Zn,Zi xl,Zi xm] 73 (0,0)) from by rw[h5];exact hs9.like (by cases s5 with | er p e=>exact like_er p e | ok y r=>exact like_ok _ _ _)) (show OV okNs (NB w.heap.size BD) s6 (Zn) u9 from fun x r e=>by rw[h5] at e;obtain⟨_,_,_,e9⟩:=PR.bind_inv e;simp only[PR.ok.injEq] at e9;rw[← e9.1];exact okNs_nil _ _))
   clear h4 h5 hs9
   go_wp2_with fail
   go_meet
   exact⟨none,0,0,Zh HG.out.1,Zh HG.out.2,HVa,HVr⟩
  | true=>
   obtain⟨y,r9,e9,h4,h5⟩:=HZ.out.1 rfl
   have hd9:=HS.out.q.ds
   rw[if_pos h4,toU,e9,PR.bind_ok,PR.bind_ok] at hd9
   have HJ:=Zh (show Calls Tryz.prog 59 #[Zp pb] u9 (DP ASl u9 pb al L en 0 s6 (okNs (New noB u9.heap.size))) from by rw[h5];exact dnames_any hL hlen u9 r9.tail 0 hd9)
   clear hd9 e9 h4 h5
   go_wp2_with fail
   refine HJ.out.mono ?_
   rintro e u7 ⟨_,rfl,⟨va,vq,vc,rfl⟩,hds,ht,hv⟩
   have HS7:=Zh (HS.out.call ht hds)
   have HV7:=Zh (HS.out.val okNs_f hv)
   replace HVa:=Zh (HVa.out.t1 okNs_f ht HS.out.ne)
   replace HVr:=Zh (HVr.out.t1 okNs_f ht HS.out.ne)
   obtain⟨_,_,_,e1,_⟩:=RowD.cells HS7.out.d
   obtain⟨_,_,_,f1,_⟩:=RowD.frz HS7.out.d
   clear hds ht hv HJ
   go_wp2_with fail
   go_meet
   exact⟨va,vq,vc,Zh (HS7.out.set 3 _),Zh (HV7.out.set okNs_f),Zh (HVa.out.set okNs_f),Zh (HVr.out.set okNs_f)⟩
 obtain⟨va,vq,vc,HS,HVv,HVa,HVr⟩:=hcut
 clear HZ
 go_wp2_with fail
 refine (show Calls Tryz.prog 61 #[Zp pb] wc (DP ASl wc pb al L en 0 s7 (okSs (New noB wc.heap.size))) from by rw[hs7];exact dBlk_any hL hlen wc s6 0 (by omega) HS.out.q.ds).mono ?_
 rintro e u10 ⟨_,rfl,⟨ba,bq,bc,rfl⟩,hds,ht,hv⟩
 have HVb:=Zh (HS.out.val okSs_f hv)
 replace HVa:=Zh (HVa.out.t1 okNs_f ht HS.out.ne)
 replace HVr:=Zh (HVr.out.t1 okNs_f ht HS.out.ne)
 replace HVv:=Zh (HVv.out.t1 okNs_f ht HS.out.ne)
 replace HS:=Zh (HS.out.call ht hds)
 obtain⟨_,_,_,_,e4,_⟩:=RowD.cells HS.out.d
 obtain⟨_,_,_,_,f4,_⟩:=RowD.frz HS.out.d
 clear hds ht hv hs7
 obtain⟨u11,hu11⟩:=nm (u10.setCell ⟨BD,4,none⟩ (.slice ba bq bc))
 replace HS:Hid (PQ w u11 pb al L en 0 s7 w.heap.size BD zD (.cells #[.string xs,.slice aa aq ac,.slice ra rq rc,.slice va vq vc,.slice ba bq bc,Zi xl,Zi xm] 73 (0,0))):=Zh (by rw[hu11];exact HS.out.set 4 _)
 replace HVb:Hid (OV okSs (NB w.heap.size BD) s7 (.slice ba bq bc) u11):=Zh (by rw[hu11];exact HVb.out.set okSs_f)
 replace HVa:Hid (OV okNs (NB w.heap.size BD) s3 (.slice aa aq ac) u11):=Zh (by rw[hu11];exact HVa.out.set okNs_f)
 replace HVr:Hid (OV okNs (NB w.heap.size BD) s5 (.slice ra rq rc) u11):=Zh (by rw[hu11];exact HVr.out.set okNs_f)
 replace HVv:Hid (OV okNs (NB w.heap.size BD) s6 (.slice va vq vc) u11):=Zh (by rw[hu11];exact HVv.out.set okNs_f)
 go_upto_region 12 with fail
 rw[← hu11]
 clear hu11 e4 f4
 have hrg:=RowD.range HS.out.d
 have hz:u11.heap[w.heap.size]? = some (.cells #[Ze,Zn,Zn,Zn,Zn,Zi 0,Zi 0] 73 (0,0)):=hzD▸HS.out.r
 have hv:OV okPr (NB w.heap.size BD) G (.agg #[.string xs,.slice aa aq ac,.slice ra rq rc,.slice va vq vc,.slice ba bq bc,Zi xl,Zi xm]) u11:=fun X r e=>by
  obtain⟨nm,ags,rs,ws,b,⟨rn,e1⟩,⟨ra,e3⟩,⟨rr,e5⟩,⟨rw_,e6⟩,⟨rb,e7⟩,rfl⟩:=HK.out.2 X r e
  obtain⟨h1,h2,h3⟩:=HVn.out nm _ e1
  rw[h1,h2,h3]
  exact okPr_new (HVa.out ags _ e3) (HVr.out rs _ e5) (HVv.out ws _ e6) (HVb.out b _ e7)
 have HF:=Zh (dresD (P':=New noB w.heap.size) (HS.out.toU.like HK.out.1).q (Nat.le_refl _) hz ⟨_,_,_,_,_,_,_,_,_,_,_,_,_,_,_,rfl⟩ okPr_f hv (fun k hk=>⟨.inr (Nat.le_of_lt hk.1),Nat.ne_of_gt hk.1⟩))
 clear HS HVn HVa HVr HVv HVb hv HK HCr HCw HT hzD
 go_wp2_with (first | (refine wpList_load_mid rfl 73 _ rfl BD 0 rfl [.string xs,.slice aa aq ac,.slice ra rq rc,.slice va vq vc,.slice ba bq bc,Zi xl,Zi xm] _ hrg Tryz.underlying73 rfl (by kernel_rfl) ?_) | (refine wpList_store_row rfl 73 _ _ rfl w.heap.size #[.string xs,.slice aa aq ac,.slice ra rq rc,.slice va vq vc,.slice ba bq bc,Zi xl,Zi xm] rfl rfl 73 _ hz (by kernel_rfl) rfl (by kernel_rfl) ?_))
 obtain⟨h1,h2⟩:=HF.out
 clear HF hz hrg
 generalize u11.setRow w.heap.size #[.string xs,.slice aa aq ac,.slice ra rq rc,.slice va vq vc,.slice ba bq bc,Zi xl,Zi xm]=W7 at h1 h2 ⊢
 exact bodyPost_ret (v:=.agg #[.string xs,.slice aa aq ac,.slice ra rq rc,.slice va vq vc,.slice ba bq bc,Zi xl,Zi xm]) (res_cell Tryz.results36 rfl h1.load) rfl h2
structure SMem (w W:World) (n m:Nat) (cv pv:Value) (cs ps:List Value):Prop where
 z:RowS W w.heap.size (Zn) (Zn)
 s:RowS W (w.heap.size+1) cv pv
 co:W.ownsRow (w.heap.size+1+1) 68 10 cv n cs
 po:W.ownsRow (w.heap.size+1+1) 73 7 pv m ps
 ne:∀g,cv.ownBlock=some g→pv.ownBlock≠some g
structure SCon (w W:World) (cv pv:Value) (cs ps:List Value) (acc:SrcS):Prop where
 cc:Els okCo 10 (Pcp (w.heap.size+1+1) cv pv) W acc.consts cs
 pp:Els okPr 7 (Pcp (w.heap.size+1+1) cv pv) W acc.procs ps
section
variable {w W W':World} {n m:Nat} {cv pv:Value} {cs ps:List Value} {acc:SrcS}
theorem SMem.keep (h:SMem w W n m cv pv cs ps) (hb:∀k,w.heap.size≤k→k < W.heap.size→W'.heap[k]? = W.heap[k]?):SMem w W' n m cv pv cs ps:=by
 refine⟨(hb _ (Nat.le_refl _) (blk_lt h.z)).trans h.z,(hb _ (by omega) (blk_lt h.s)).trans h.s,ownsRow_same h.co (fun g hg=>?_),ownsRow_same h.po (fun g hg=>?_),h.ne⟩
 ·have:=World.ownsRow.lt h.co g hg
  exact hb g (by omega) this.2
 ·have:=World.ownsRow.lt h.po g hg
  exact hb g (by omega) this.2
theorem SCon.keep (h:SCon w W cv pv cs ps acc) (hb:∀k,w.heap.size≤k→k < W.heap.size→W'.heap[k]? = W.heap[k]?):SCon w W' cv pv cs ps acc:=
 ⟨h.cc.kept okCo_f (fun _ q=>q) (fun k hk hl=>hb k (by have:=hk.1;omega) hl),h.pp.kept okPr_f (fun _ q=>q) (fun k hk hl=>hb k (by have:=hk.1;omega) hl)⟩
end
theorem SMem.addC {w W W' W2:World} {cv pv cv':Value} {cs ps a:List Value} {n m:Nat} (h:SMem w W n m cv pv cs ps) (hR:RApp W W' (w.heap.size+1+1) 68 10 cv cv' n (cs ++ a)) (h2:W2=W'.setCell ⟨w.heap.size+1,0,none⟩ cv') :
  SMem w W2 (n+1) m cv' pv (cs ++ a) ps∧Below w.heap.size W W2∧∀(acc:SrcS) (c:CoS) (M:Nat),SCon w W cv pv cs ps acc→a.length=10→okCo (New noB M) c (.agg a.toArray) W→(∀g,(cv.ownBlock=some g∨pv.ownBlock=some g)→g < M)→w.heap.size+1+1≤M→SCon w W2 cv' pv (cs ++ a) ps { acc with consts:=acc.consts ++ [c] }:=by
 have hs1:=blk_lt h.s
 have hoth:∀k,k≠w.heap.size+1→W2.heap[k]? = W'.heap[k]?:=fun k hk=>by rw[h2];exact heap_setCell_other _ _ _ _ hk
 have hbe:Below w.heap.size W W2:=by rw[h2];exact (hR.bel.mono (by omega)).setCell (p:=⟨w.heap.size+1,0,none⟩) (by show w.heap.size≤w.heap.size+1;omega) _
 have hlow:∀k,k < w.heap.size+1+1→W'.heap[k]? = W.heap[k]?:=fun k hk=>hR.bel.block k hk
 have hne:=blk_ne hR.blk
 have hP:∀k,ltB (Pcp (w.heap.size+1+1) cv pv) W.heap.size k→Pcp (w.heap.size+1+1) cv' pv k:=pcp_mono hne
 have hS:∀k,Pcp (w.heap.size+1+1) cv pv k→k < W.heap.size→W2.heap[k]? = W.heap[k]?:=fun k hk hl=>(hoth k (by have:=hk.1;omega)).trans (hR.oth k hl hk.2.1)
 refine⟨⟨?_,?_,?_,?_,?_⟩,hbe,fun acc c M hC hl hc hM hM2=>⟨?_,?_⟩⟩
 ·exact (hoth _ (by omega)).trans ((hlow _ (by omega)).trans h.z)
 ·rw[h2]
  exact heap_setCell_same _ (w.heap.size+1) 0 _ _ _ ((hlow _ (by omega)).trans h.s)
 ·have h3:=hR.own
  exact ownsRow_same h3 (fun g hg=>hoth g (by have:=(World.ownsRow.lt h3 g hg).1;omega))
 ·exact ownsRow_same h.po (fun g hg=>(hoth g (by have:=(World.ownsRow.lt h.po g hg).1;omega)).trans (hR.oth g (World.ownsRow.lt h.po g hg).2 (fun e=>h.ne g e hg)))
 ·intro g hg hg2
  have h3:=World.ownsRow.lt h.po g hg2
  exact hne g h3.2 (fun e=>h.ne g e hg2) hg
 ·refine Els.app hl (okCo_f _ _ _ _ _ _ (okCo_lt _ _ _ _ hc) (fun k hk=>?_) (fun k hk hl=>?_)) ((hC.cc.lt okCo_lt).kept okCo_f hP (fun k hk hl=>hS k hk.1 hl))
  ·have hk1:M≤k:=hk.1.elim (fun h=>h.elim) id
   exact⟨by omega,hne k hk.2 (fun e=>by have:=hM k (.inl e);omega),fun e=>by have:=hM k (.inr e);omega⟩
  ·have hk1:M≤k:=hk.1.elim (fun h=>h.elim) id
   exact hS k ⟨by omega,fun e=>by have:=hM k (.inl e);omega,fun e=>by have:=hM k (.inr e);omega⟩ hl
 ·exact (hC.pp.lt okPr_lt).kept okPr_f hP (fun k hk hl=>hS k hk.1 hl)
theorem SMem.addP {w W W' W2:World} {cv pv pv':Value} {cs ps a:List Value} {n m:Nat} (h:SMem w W n m cv pv cs ps) (hR:RApp W W' (w.heap.size+1+1) 73 7 pv pv' m (ps ++ a)) (h2:W2=W'.setCell ⟨w.heap.size+1,1,none⟩ pv') :
  SMem w W2 n (m+1) cv pv' cs (ps ++ a)∧Below w.heap.size W W2∧∀(acc:SrcS) (c:PrS) (M:Nat),SCon w W cv pv cs ps acc→a.length=7→okPr (New noB M) c (.agg a.toArray) W→(∀g,(cv.ownBlock=some g∨pv.ownBlock=some g)→g < M)→w.heap.size+1+1≤M→SCon w W2 cv pv' cs (ps ++ a) { acc with procs:=acc.procs ++ [c] }:=by
 have hs1:=blk_lt h.s
 have hoth:∀k,k≠w.heap.size+1→W2.heap[k]? = W'.heap[k]?:=fun k hk=>by rw[h2];exact heap_setCell_other _ _ _ _ hk
 have hbe:Below w.heap.size W W2:=by rw[h2];exact (hR.bel.mono (by omega)).setCell (p:=⟨w.heap.size+1,1,none⟩) (by show w.heap.size≤w.heap.size+1;omega) _
 have hlow:∀k,k < w.heap.size+1+1→W'.heap[k]? = W.heap[k]?:=fun k hk=>hR.bel.block k hk
 have hne:=blk_ne hR.blk
 have hP:∀k,ltB (Pcp (w.heap.size+1+1) cv pv) W.heap.size k→Pcp (w.heap.size+1+1) cv pv' k:=fun k hk=>⟨hk.1.1,hk.1.2.1,hne k hk.2 hk.1.2.2⟩
 have hS:∀k,Pcp (w.heap.size+1+1) cv pv k→k < W.heap.size→W2.heap[k]? = W.heap[k]?:=fun k hk hl=>(hoth k (by have:=hk.1;omega)).trans (hR.oth k hl hk.2.2)
 refine⟨⟨?_,?_,?_,?_,?_⟩,hbe,fun acc c M hC hl hc hM hM2=>⟨?_,?_⟩⟩
 ·exact (hoth _ (by omega)).trans ((hlow _ (by omega)).trans h.z)
 ·rw[h2]
  exact heap_setCell_same _ (w.heap.size+1) 1 _ _ _ ((hlow _ (by omega)).trans h.s)
 ·exact ownsRow_same h.co (fun g hg=>(hoth g (by have:=(World.ownsRow.lt h.co g hg).1;omega)).trans (hR.oth g (World.ownsRow.lt h.co g hg).2 (h.ne g hg)))
 ·have h3:=hR.own
  exact ownsRow_same h3 (fun g hg=>hoth g (by have:=(World.ownsRow.lt h3 g hg).1;omega))
 ·intro g hg
  exact hne g (World.ownsRow.lt h.co g hg).2 (h.ne g hg)
 ·exact (hC.cc.lt okCo_lt).kept okCo_f hP (fun k hk hl=>hS k hk.1 hl)
 ·refine Els.app hl (okPr_f _ _ _ _ _ _ (okPr_lt _ _ _ _ hc) (fun k hk=>?_) (fun k hk hl=>?_)) ((hC.pp.lt okPr_lt).kept okPr_f hP (fun k hk hl=>hS k hk.1 hl))
  ·have hk1:M≤k:=hk.1.elim (fun h=>h.elim) id
   exact⟨by omega,fun e=>by have:=hM k (.inl e);omega,hne k hk.2 (fun e=>by have:=hM k (.inr e);omega)⟩
  ·have hk1:M≤k:=hk.1.elim (fun h=>h.elim) id
   exact hS k ⟨by omega,fun e=>by have:=hM k (.inl e);omega,fun e=>by have:=hM k (.inr e);omega⟩ hl
structure SLd (w wr:World) (pb:Nat) (al:Value) (L:List Tok) (en:Nat × Nat) (G:PR SrcS) (f:Nat) (S:PR SrcS) (n m:Nat) (cv pv:Value) (cs ps:List Value):Prop where
 dq:DQ w wr pb al L en 0 S
 mem:SMem w wr n m cv pv cs ps
 ok:∀acc ts,S=.ok acc ts→SCon w wr cv pv cs ps acc∧n=acc.consts.length∧m=acc.procs.length∧n+m+ts.length≤70000
 eq:G=S.bind fun acc ts=>pSrc en f acc ts
 ln:n≤70001∧m≤70001
def A2s (v:Value):Prop:=∃(ca pa:Option Addr) (cn cc pn pc:Nat),v=.agg #[.slice ca cn cc,.slice pa pn pc]
theorem okCo_new {P:Nat→Prop} {W:World} {nm:NmP} {x:Ex} {x0 x1 x2 x3 x4 x5 x6:Value} (h:okE P x (.agg #[x0,x1,x2,x3,x4,x5,x6]) W):okCo P (nm.1,x,nm.2) (.agg #[.string (S nm.1),x0,x1,x2,x3,x4,x5,x6,Zi (nm.2.1:Int),Zi (nm.2.2:Int)]) W:=⟨_,_,_,_,_,_,_,rfl,h⟩
theorem dsource_any {pb:Nat} {al:Value} {L:List Tok} {en:Nat × Nat} (hL:TksOk L) (hlen:L.length≤65536) (w:World) (ts:List Tok) (hds:DS w pb al L en 0 (PR.ok () ts:PR Unit)):Calls Tryz.prog 11 #[Zp pb] w (DP A2s w pb al L en 0 (pSrc en (ts.length+1) ⟨[],[]⟩ ts) (okSrc (New noB w.heap.size))):=by
 have hlen0:=hlen
 have hlen:L.length≤70000:=by omega
 obtain⟨G,hG⟩:∃z:PR SrcS,z=pSrc en (ts.length+1) ⟨[],[]⟩ ts:=⟨_,rfl⟩
 rw[← hG]
 have HNe:Hid (G≠.er (0,0) 0):=Zh (by rw[hG];exact (pSrc_fine en _ _ ts ts.length (Nat.le_refl _) (Nat.le_refl _)).ne)
 have hll:=hds.len
 obtain⟨ua,hua⟩:∃z,z=w.alloc (.cells #[Zn,Zn] 25):=⟨_,rfl⟩
 obtain⟨u0,hu0⟩:∃z,z=ua.alloc (.cells #[Zn,Zn] 25):=⟨_,rfl⟩
 have sa:ua.heap.size=w.heap.size+1:=by rw[hua];simp
 have hba:Below w.heap.size w ua:=by rw[hua];exact bel_al _ _
 have hb1:Below ua.heap.size ua u0:=by rw[hu0];exact bel_al _ _
 have hb0:Below w.heap.size w u0:=hba.trans (hb1.mono hba.size)
 have hq:=(DQ.start hds).bel hb0
 have HL:Hid (∃f S i j cv pv cs ps,SLd w u0 pb al L en G f S i j cv pv cs ps):=Zh ⟨ts.length+1,.ok ⟨[],[]⟩ ts,0,0,Zn,Zn,[],[],hq.call (T1.bel (Below.refl _ _)) (hq.ds.like (like_ok _ _ _)),⟨RowS.kept (show RowS ua w.heap.size (Zn) (Zn) by rw[hua];exact heap_alloc_new _ _ rfl) hb1,by rw[hu0,← sa];exact heap_alloc_new _ _ rfl,⟨rfl,.inl ⟨rfl,rfl⟩⟩,⟨rfl,.inl ⟨rfl,rfl⟩⟩,fun g hg=>by cases hg⟩,fun acc r e=>by
  cases e
  exact⟨⟨rfl,rfl⟩,rfl,rfl,by omega⟩,hG,by omega,by omega⟩
 clear hq hb0 hb1 hba sa hds hG hll
 go_enter Tryz.func11,Tryz.ntmps11
 go_upto_region 2 with fail
 rw[← hua,← hu0]
 clear hua hu0
 go_loopw[] (fun wr=>Hid (∃f S i j cv pv cs ps,SLd w wr pb al L en G f S i j cv pv cs ps)) (fun wr=>mD pb wr)
 case atStart=>exact HL
 case round=>
  clear HL
  obtain⟨f,S,n,m,cv,pv,cs,ps,hL2⟩:=hrel.out
  obtain⟨ca,cc,rfl,_⟩:=own_slice hL2.mem.co
  obtain⟨pa,pc,rfl,_⟩:=own_slice hL2.mem.po
  have hng:(S.bind fun acc ts=>pSrc en f acc ts)≠.er (0,0) 0:=by rw[← hL2.eq];exact HNe.out
  have HQ:=Zh hL2.dq
  have HM:=Zh hL2.mem
  obtain⟨n0,hn0⟩:∃z,z=wr.heap.size:=⟨_,rfl⟩
  have HC:Hid (pb < w.heap.size∧w.heap.size < w.heap.size+1∧w.heap.size+1 < n0∧n0≤wr.heap.size):=Zh ⟨hL2.dq.lt,by omega,by rw[hn0];exact blk_lt hL2.mem.s,by omega⟩
  have HRw:Hid (∀g,((.slice ca n cc:Value).ownBlock=some g∨(.slice pa m pc:Value).ownBlock=some g)→g < n0):=Zh fun g hg=>by
   rw[hn0]
   rcases hg with hg | hg
   ·exact (World.ownsRow.lt hL2.mem.co g hg).2
   ·exact (World.ownsRow.lt hL2.mem.po g hg).2
  clear hn0
  have HLn:Hid (n≤70001∧m≤70001):=Zh hL2.ln
  have hE:=hL2.eq
  have hOk:=hL2.ok
  clear hrel hL2
  cases S with
  | er p e=>
   have HGS:Hid (G=PR.er p e):=Zh hE
   obtain⟨h0,k,h1,h3,h4⟩:=HQ.out.ds
   obtain⟨_,_,_,_,_,_,c6,_⟩:=h3.cells
   obtain⟨xi,hxi⟩:∃xi:Int,xi=(e:Int):=⟨_,rfl⟩
   rw[← hxi] at c6
   have hd:(xi == 0)=false:=by simp;omega
   clear hxi h0 h1 h3 h4 hE hOk hng
   go_upto_region 2 with fail
   go_quiet (fail)
   have hb:Below wr.heap.size wr (wr.drewN nq):=((Grew.refl wr).drewN nq).below
   replace HM:=Zh (HM.out.keep (fun k _ h2=>(hb).block k h2))
   replace HQ:=Zh (HQ.out.bel hb)
   replace HC:Hid (((pb < w.heap.size∧w.heap.size+1≤w.heap.size+1)∧w.heap.size+1+1≤n0)∧n0≤(wr.drewN nq).heap.size):=Zh (by have h1:=HC.out;have h2:=hb.size;omega)
   clear hb c6 hd
   generalize wr.drewN nq=u21 at *
   have hm:=HM.out
   have hrg:=hm.s.range
   have hz:=hm.z
   have hb1:Below w.heap.size u21 (u21.setRow w.heap.size #[.slice ca n cc,.slice pa m pc]):=setR_below (Below.refl _ _) (Nat.le_refl _) _
   have hq9:=HQ.out.low hb1
   have hoth:∀k,k≠w.heap.size→(u21.setRow w.heap.size #[.slice ca n cc,.slice pa m pc]).heap[k]? = u21.heap[k]?:=fun k hk=>setR_other hk _
   have HF:Hid (RowS (u21.setRow w.heap.size #[.slice ca n cc,.slice pa m pc]) w.heap.size (.slice ca n cc) (.slice pa m pc)∧DP A2s w pb al L en 0 G (okSrc (New noB w.heap.size)) (.returned (.agg #[.slice ca n cc,.slice pa m pc])) (u21.setRow w.heap.size #[.slice ca n cc,.slice pa m pc])):=Zh ⟨hz.put _ _,_,rfl,⟨_,_,_,_,_,_,rfl⟩,by rw[HGS.out];exact hq9.ds,hq9.t1,fun X r e=>by
    rw[HGS.out] at e
    cases e⟩
   clear HC HQ HM hm hb1 hq9 hoth HGS HNe HLn HRw
   go_wp2_with (first | (refine wpList_load_mid rfl 25 _ rfl (w.heap.size+1) 0 rfl [.slice ca n cc,.slice pa m pc] _ hrg Tryz.underlying25 rfl (by kernel_rfl) ?_) | (refine wpList_store_row rfl 25 _ _ rfl w.heap.size #[.slice ca n cc,.slice pa m pc] rfl rfl 25 _ hz (by kernel_rfl) rfl (by kernel_rfl) ?_))
   obtain⟨h1,h2⟩:=HF.out
   clear HF hz hrg
   generalize u21.setRow w.heap.size #[.slice ca n cc,.slice pa m pc]=W7 at h1 h2 ⊢
   exact bodyPost_ret (v:=.agg #[.slice ca n cc,.slice pa m pc]) (res_cell Tryz.results11 rfl h1.load) rfl h2
  | ok acc ts=>
   rw[PR.bind_ok] at hng hE
   obtain⟨hK,hn1,hm1,hlen1⟩:=hOk acc ts rfl
   have HK:=Zh hK
   have HN:Hid (n=acc.consts.length∧m=acc.procs.length∧n+m+ts.length≤70000):=Zh ⟨hn1,hm1,hlen1⟩
   obtain⟨f,rfl⟩:∃f',f=f'+1:=by
    cases f with
    | zero=>exact absurd (by simp only[pSrc]) hng
    | succ f=>exact⟨f,rfl⟩
   simp only[pSrc] at hE
   clear hOk hK hn1 hm1 hlen1 hng
   cases ts with
   | nil=>
    rw[if_pos rfl] at hE
    have HGS:=Zh hE
    obtain⟨h0,k,h1,h2,h3,h4⟩:=HQ.out.ds
    obtain⟨c0,c1,_,_,_,_,c6,_⟩:=h3.cells
    have c6:wr.cell? ⟨pb,6,none⟩=some (Zi 0):=c6
    have hke:k=L.length:=by
     have:=congrArg List.length h2
     simp at this
     omega
    subst hke
    obtain⟨ao,c,hal,_⟩:=h4
    rw[hal] at c0
    clear h0 h1 h2 h3 hal hE
    go_upto_region 2 with fail
    go_quiet (fail)
    have hb:Below wr.heap.size wr (wr.drewN nq):=((Grew.refl wr).drewN nq).below
    replace HM:=Zh (HM.out.keep (fun k _ h2=>(hb).block k h2))
    replace HK:=Zh (HK.out.keep (fun k _ h2=>(hb).block k h2))
    replace HQ:=Zh (HQ.out.bel hb)
    replace HC:Hid (((pb < w.heap.size∧w.heap.size+1≤w.heap.size+1)∧w.heap.size+1+1≤n0)∧n0≤(wr.drewN nq).heap.size):=Zh (by have h1:=HC.out;have h2:=hb.size;omega)
    clear hb c0 c1 c6
    generalize wr.drewN nq=u41 at *
    have hm:=HM.out
    have hrg:=hm.s.range
    have hz:=hm.z
    have hb1:Below w.heap.size u41 (u41.setRow w.heap.size #[.slice ca n cc,.slice pa m pc]):=setR_below (Below.refl _ _) (Nat.le_refl _) _
    have hq9:=HQ.out.low hb1
    have hoth:∀k,k≠w.heap.size→(u41.setRow w.heap.size #[.slice ca n cc,.slice pa m pc]).heap[k]? = u41.heap[k]?:=fun k hk=>setR_other hk _
    have HF:Hid (RowS (u41.setRow w.heap.size #[.slice ca n cc,.slice pa m pc]) w.heap.size (.slice ca n cc) (.slice pa m pc)∧DP A2s w pb al L en 0 G (okSrc (New noB w.heap.size)) (.returned (.agg #[.slice ca n cc,.slice pa m pc])) (u41.setRow w.heap.size #[.slice ca n cc,.slice pa m pc])):=Zh ⟨hz.put _ _,_,rfl,⟨_,_,_,_,_,_,rfl⟩,by rw[HGS.out];exact hq9.ds,hq9.t1,fun X r e=>by
     rw[HGS.out] at e
     cases e
     have hk2:∀k,w.heap.size+1+1≤k→(u41.setRow w.heap.size #[.slice ca n cc,.slice pa m pc]).heap[k]? = u41.heap[k]?:=fun k hk=>hoth k (by omega)
     refine⟨_,_,cs,ps,rfl,?_,?_,fun g hg=>.inr ?_,fun g hg=>.inr ?_,?_,?_⟩
     ·rw[← HN.out.1]
      exact ownsRow_mono (ownsRow_same hm.co (fun g hg=>hk2 g (World.ownsRow.lt hm.co g hg).1)) (Nat.zero_le _)
     ·rw[← HN.out.2.1]
      exact ownsRow_mono (ownsRow_same hm.po (fun g hg=>hk2 g (World.ownsRow.lt hm.po g hg).1)) (Nat.zero_le _)
     ·have:=(World.ownsRow.lt hm.co g hg).1;omega
     ·have:=(World.ownsRow.lt hm.po g hg).1;omega
     ·exact HK.out.cc.kept okCo_f (fun k hk=>.inr (by have:=hk.1;omega)) (fun k hk _=>hk2 k hk.1)
     ·exact HK.out.pp.kept okPr_f (fun k hk=>.inr (by have:=hk.1;omega)) (fun k hk _=>hk2 k hk.1)⟩
    clear HC HQ HM hm hb1 hq9 hoth HGS HNe HLn HN HK HRw
    go_wp2_with (first | (refine wpList_load_mid rfl 25 _ rfl (w.heap.size+1) 0 rfl [.slice ca n cc,.slice pa m pc] _ hrg Tryz.underlying25 rfl (by kernel_rfl) ?_) | (refine wpList_store_row rfl 25 _ _ rfl w.heap.size #[.slice ca n cc,.slice pa m pc] rfl rfl 25 _ hz (by kernel_rfl) rfl (by kernel_rfl) ?_))
    obtain⟨h1,h2⟩:=HF.out
    clear HF hz hrg
    generalize u41.setRow w.heap.size #[.slice ca n cc,.slice pa m pc]=W7 at h1 h2 ⊢
    exact bodyPost_ret (v:=.agg #[.slice ca n cc,.slice pa m pc]) (res_cell Tryz.results11 rfl h1.load) rfl h2
   | cons t rest=>
    rw[if_neg (by exact fun h=>by cases h)] at hE
    have HMe:Hid (mD pb wr=rest.length+1+1):=Zh (mD_ok HQ.out.ds)
    have htok:=HQ.out.ds.toks hL
    have HT:Hid (TksOk (t :: rest)):=Zh htok
    obtain⟨h0,k,h1,h2,h3,h4⟩:=HQ.out.ds
    obtain⟨c0,c1,_,_,_,_,c6,_⟩:=h3.cells
    have c6:wr.cell? ⟨pb,6,none⟩=some (Zi 0):=c6
    obtain⟨ao,c,hal,_⟩:=h4
    rw[hal] at c0
    have hkn:k < L.length:=by
     rcases Nat.lt_or_ge k L.length with h | h
     ·exact h
     ·rw[List.drop_eq_nil_of_le h] at h2;cases h2
    have hgd:decide (k < L.length)=true:=by simp;omega
    have hgk:(k:Int) < (L.length:Int):=by omega
    obtain⟨nn,hnn⟩:∃z,z=L.length:=⟨_,rfl⟩
    rw[← hnn] at c0 hgd hgk
    clear h0 h1 h2 h3 hal hkn hnn htok
    have HE:=Zh hE
    clear hE
    go_upto_region 2 with fail
    go_quiet (fail)
    have hb:Below wr.heap.size wr (wr.drewN nq):=((Grew.refl wr).drewN nq).below
    replace HM:=Zh (HM.out.keep (fun k _ h2=>(hb).block k h2))
    replace HK:=Zh (HK.out.keep (fun k _ h2=>(hb).block k h2))
    replace HQ:=Zh (HQ.out.bel hb)
    replace HC:Hid (((pb < w.heap.size∧w.heap.size+1≤w.heap.size+1)∧w.heap.size+1+1≤n0)∧n0≤(wr.drewN nq).heap.size):=Zh (by have h1:=HC.out;have h2:=hb.size;omega)
    clear hb c0 c1 c6 hgd hgk
    generalize wr.drewN nq=u61 at *
    have hi:=dis_any u61 pb al L en 0 (toU (PR.ok acc (t :: rest))) wConst hL hlen (by decide) HQ.out.ds.toU
    rw[pkS_toU] at hi
    by_cases he:pkS (PR.ok acc (t :: rest))=wConst
    ·rw[decide_eq_true he,if_pos he] at hi
     have hnx:nxtT (t :: rest)=wConst:=by
      obtain⟨_,_,e9,h9,_⟩:=pkS_ok HQ.out.ds hL (by decide) he
      cases e9
      exact h9
     have hE:=HE.out
     rw[if_pos hnx] at hE
     obtain⟨s1,hs1⟩:∃z:PR NmP,z=pName en rest:=⟨_,rfl⟩
     obtain⟨s2,hs2⟩:∃z:PR Ex,z=s1.bind fun _ t=>pGi en 0 t:=⟨_,rfl⟩
     obtain⟨s3,hs3⟩:∃z:PR Unit,z=s2.bind fun _ t=>pMust en [59] t:=⟨_,rfl⟩
     obtain⟨s4,hs4⟩:∃z:PR CoS,z=pConst en rest:=⟨_,rfl⟩
     have key:Like s3 s4∧(∀X r,s4=.ok X r→∃nm rn x rx,s1=.ok nm rn∧s2=.ok x rx∧X=(nm.1,x,nm.2)):=by
      have h:=like2 (PR.ok () rest:PR Unit) (fun t=>pName en t) (fun t=>pMust en [61] t) (fun t=>pW en 0 t) (fun t=>pMust en [59] t) (fun nm x=>((nm.1,x,nm.2):CoS))
      have e:s4=(PR.ok () rest:PR Unit).bind fun _ t=>(pName en t).bind fun nm t=>(pMust en [61] t).bind fun _ t=>(pW en 0 t).bind fun x t=>(pMust en [59] t).bind fun _ t=>.ok ((nm.1,x,nm.2):CoS) t:=hs4
      have e2:s2=(s1.bind fun _ t=>pMust en [61] t).bind fun _ t=>pW en 0 t:=by rw[hs2,PR.bind_assoc];rfl
      rw[← e,PR.bind_ok,← hs1,← e2,← hs3] at h
      exact⟨h.1,h.2.1⟩
     have hE2:G=s4.bind fun c r=>pSrc en f { acc with consts:=acc.consts ++ [c] } r:=by rw[hE,hs4];rfl
     have HE2:=Zh hE2
     have HJ:Hid (Calls Tryz.prog 32 #[Zp pb,.string ⟨#[99,111,110,115,116]⟩] u61 fun e w'=>e=.returned (.bool true)∧DS w' pb al L en 0 (PR.ok () rest:PR Unit)∧T1 pb u61 w'):=Zh hi
     clear hi he hE hE2 hnx HE
     go_wp2_with fail
     refine HJ.out.mono ?_
     clear HJ
     rintro e u81 ⟨rfl,hds,ht⟩
     replace HM:=Zh (HM.out.keep (fun k h1 h2=>(ht).block k h2 (by have:=HC.out;omega)))
     replace HK:=Zh (HK.out.keep (fun k h1 h2=>(ht).block k h2 (by have:=HC.out;omega)))
     replace HQ:=Zh (HQ.out.call ht hds)
     replace HC:Hid (((pb < w.heap.size∧w.heap.size+1≤w.heap.size+1)∧w.heap.size+1+1≤n0)∧n0≤u81.heap.size):=Zh (by have h1:=HC.out;have h2:=ht.size;omega)
     clear ht hds
     obtain⟨n1,hn1⟩:=nm u81.heap.size
     replace HC:=Zh (cM HC.out hn1)
     go_wp2_with fail
     refine (show Calls Tryz.prog 33 #[Zp pb] u81 (DP A3 u81 pb al L en 0 s1 (okN (New noB u81.heap.size))) from by rw[hs1];exact dname_any u81 pb al L en 0 hlen (PR.ok () rest:PR Unit) HQ.out.ds).mono ?_
     rintro e u82 ⟨_,rfl,⟨xs,xl,xm,rfl⟩,hds,ht,hv⟩
     replace HM:=Zh (HM.out.keep (fun k h1 h2=>(ht).block k h2 (by have:=HC.out;omega)))
     replace HK:=Zh (HK.out.keep (fun k h1 h2=>(ht).block k h2 (by have:=HC.out;omega)))
     replace HQ:=Zh (HQ.out.call ht hds)
     replace HC:=Zh (cU HC.out ht.size)
     clear ht hds
     obtain⟨u83,hu83⟩:=nm (u82.alloc (.cells #[.string xs,Zi xl,Zi xm] 89))
     obtain⟨BX,hBX⟩:=nm u82.heap.size
     have hb:Below u82.heap.size u82 u83:=by rw[hu83];exact bel_al _ _
     have HX:Hid (Row3 u83 BX (.string xs) (Zi xl) (Zi xm)):=Zh (by rw[hu83,hBX];exact heap_alloc_new _ _ rfl)
     have HVx:Hid (OV okN (fun k=>n1≤k∧k < BX) s1 (.agg #[.string xs,Zi xl,Zi xm]) u83):=Zh (OV.res hv okN_f okN_lt' hb (fun k h1 h2=>⟨by omega,by omega⟩))
     clear hv
     have hc0:=HC.out
     replace HM:=Zh (HM.out.keep (fun k _ h2=>(hb).block k h2))
     replace HK:=Zh (HK.out.keep (fun k _ h2=>(hb).block k h2))
     replace HQ:=Zh (HQ.out.bel hb)
     replace HC:=Zh (cA HC.out hBX (blk_lt HX.out))
     clear hb hc0
     go_upto_region 6 with fail
     rw[← hu83,← hBX]
     clear hu83 hBX
     clear hn1
     obtain⟨n2,hn2⟩:=nm u83.heap.size
     replace HC:=Zh (cM HC.out hn2)
     go_wp2_with fail
     refine (show Calls Tryz.prog 34 #[Zp pb] u83 (DP A7 u83 pb al L en 0 s2 (okE (New noB u83.heap.size))) from by rw[hs2];exact dgivenW_any hL hlen u83 s1 0 HQ.out.ds).mono ?_
     rintro e u84 ⟨_,rfl,⟨yk,yo,yn,yl,ym,ys,ya,yq,yc,rfl⟩,hds,ht,hv⟩
     replace HX:=Zh (HX.out.t1 ht (by have:=HC.out;omega))
     replace HVx:=Zh (HVx.out.t1 okN_f ht (fun k (hk:n1≤k∧k < BX)=>by have:=HC.out;omega))
     replace HM:=Zh (HM.out.keep (fun k h1 h2=>(ht).block k h2 (by have:=HC.out;omega)))
     replace HK:=Zh (HK.out.keep (fun k h1 h2=>(ht).block k h2 (by have:=HC.out;omega)))
     replace HQ:=Zh (HQ.out.call ht hds)
     replace HC:=Zh (cU HC.out ht.size)
     clear ht hds
     obtain⟨u85,hu85⟩:=nm (u84.alloc (.cells #[Zi yk,Zi yo,Zi yn,.string ys,.slice ya yq yc,Zi yl,Zi ym] 66))
     obtain⟨BY,hBY⟩:=nm u84.heap.size
     have hb:Below u84.heap.size u84 u85:=by rw[hu85];exact bel_al _ _
     have HY:Hid (Row7 u85 BY (Zi yk) (Zi yo) (Zi yn) (.string ys) (.slice ya yq yc) (Zi yl) (Zi ym)):=Zh (by rw[hu85,hBY];exact heap_alloc_new _ _ rfl)
     have HVy:Hid (OV okE (fun k=>n2≤k∧k < BY) s2 (.agg #[Zi yk,Zi yo,Zi yn,.string ys,.slice ya yq yc,Zi yl,Zi ym]) u85):=Zh (OV.res hv okE_f okE_lt' hb (fun k h1 h2=>⟨by omega,by omega⟩))
     clear hv
     have hc0:=HC.out
     replace HX:=Zh (HX.out.kept hb)
     replace HVx:=Zh (HVx.out.bel okN_f hb)
     replace HM:=Zh (HM.out.keep (fun k _ h2=>(hb).block k h2))
     replace HK:=Zh (HK.out.keep (fun k _ h2=>(hb).block k h2))
     replace HQ:=Zh (HQ.out.bel hb)
     replace HC:=Zh (cA HC.out hBY (blk_lt HY.out))
     clear hb hc0
     go_upto_region 7 with fail
     rw[← hu85,← hBY]
     clear hu85 hBY
     clear hn2
     go_wp2_with fail
     refine (show Calls Tryz.prog 35 #[Zp pb,.string ⟨#[59]⟩] u85 (fun e w'=>e=.returned (.tuple #[])∧DS w' pb al L en 0 s3∧T1 pb u85 w') from by rw[hs3];exact dtake_any u85 pb al L en 0 s2 [59] hL hlen (by decide) HQ.out.ds).mono ?_
     rintro e u86 ⟨rfl,hds,ht⟩
     replace HX:=Zh (HX.out.t1 ht (by have:=HC.out;omega))
     replace HY:=Zh (HY.out.t1 ht (by have:=HC.out;omega))
     replace HVx:=Zh (HVx.out.t1 okN_f ht (fun k (hk:n1≤k∧k < BX)=>by have:=HC.out;omega))
     replace HVy:=Zh (HVy.out.t1 okE_f ht (fun k (hk:n2≤k∧k < BY)=>by have:=HC.out;omega))
     replace HM:=Zh (HM.out.keep (fun k h1 h2=>(ht).block k h2 (by have:=HC.out;omega)))
     replace HK:=Zh (HK.out.keep (fun k h1 h2=>(ht).block k h2 (by have:=HC.out;omega)))
     replace HQ:=Zh (HQ.out.call ht hds)
     replace HC:=Zh (cU HC.out ht.size)
     clear ht hds
     have hm:=HM.out
     have HAp:=Zh (row_app constE hm.co [.string xs,Zi yk,Zi yo,Zi yn,.string ys,.slice ya yq yc,Zi yl,Zi ym,Zi xl,Zi xm] rfl (by intro u hu;simp at hu;rcases hu with rfl | rfl | rfl | rfl | rfl | rfl | rfl | rfl | rfl | rfl <;> rfl) (by have:=HLn.out;omega) (by have:=blk_lt hm.s;omega))
     have e0_:=hm.s.cells.1
     have f0_:=hm.s.frz.1
     clear hm
     obtain⟨⟨x0,x1,x2⟩,_⟩:=HX.out.cells
     obtain⟨⟨y0,y1,y2,y3,y4,y5,y6⟩,_⟩:=HY.out.cells
     go_wp2_with (at_builtin;refine wpL_appR rfl _ _ 22 rfl (.slice ca n cc) (.slice (some ⟨u86.heap.size,0,none⟩) 1 1) rfl rfl HAp.out ?_;rintro v2 w8 hRA;obtain⟨va,vc,rfl⟩:=hRA.shp;have e0_:w8.cell? ⟨w.heap.size+1,0,none⟩=some (.slice ca n cc):=(hRA.bel.cell (p:=⟨w.heap.size+1,0,none⟩) (by show w.heap.size+1 < w.heap.size+1+1;omega)).trans HM.out.s.cells.1;have f0_:w8.frozen? ⟨w.heap.size+1,0,none⟩=false:=frozen_of_row w8 (w.heap.size+1) 0 _ _ ((hRA.bel.block (w.heap.size+1) (by omega)).trans HM.out.s);have HRA:=Zh hRA;clear hRA)
     have hadd:=HM.out.addC (W2:=w8.setCell ⟨w.heap.size+1,0,none⟩ (.slice va (n+1) vc)) HRA.out rfl
     have HLe:Hid (∃f S i j cv pv cs ps,SLd w (w8.setCell ⟨w.heap.size+1,0,none⟩ (.slice va (n+1) vc)) pb al L en G f S i j cv pv cs ps):=Zh ⟨f,s4.bind fun c r=>.ok { acc with consts:=acc.consts ++ [c] } r,n+1,m,_,_,_,_,(HQ.out.call (T1.bel (Below.refl _ _)) (HQ.out.ds.like (show Like s3 (s4.bind fun c r=>PR.ok { acc with consts:=acc.consts ++ [c] } r) from by
      have hk:=key.1
      cases h4:s4 with
      | er p e=>
       rw[h4] at hk
       cases h3:s3 with
       | er q x=>have h:=hk.2 q x h3;cases h;exact like_er p e
       | ok u r=>obtain⟨y,h⟩:=hk.1 u r h3;cases h
      | ok c r=>
       rw[h4] at hk
       cases h3:s3 with
       | er q x=>have h:=hk.2 q x h3;cases h
       | ok u r2=>obtain⟨y,h⟩:=hk.1 u r2 h3;cases h;exact like_ok _ _ _))).low hadd.2.1,hadd.1,fun acc2 r e=>by
      obtain⟨c,rc,e1,e2⟩:=PR.bind_inv e
      simp only[PR.ok.injEq] at e2
      obtain⟨rfl,rfl⟩:=e2
      obtain⟨nm,rn,x,rx,h1,h2,rfl⟩:=key.2 c rc e1
      obtain⟨g1,g2,g3⟩:=nm_text (HVx.out nm rn h1)
      have hcs:=HC.out
      have hfi:=pConst_fine (en:=en) (ts:=rest) (Nat.le_refl _)
      rw[← hs4,e1] at hfi
      have hfi:rc.length < rest.length:=hfi
      obtain⟨c1,c2,c3⟩:=HN.out
      simp only[List.length_cons] at c3
      refine⟨hadd.2.2 acc (nm.1,x,nm.2) n0 HK.out rfl ?_ HRw.out (by omega),by rw[List.length_append,List.length_singleton,c1],c2,by omega⟩
      rw[g1,g2,g3]
      exact okCo_new (okE_mono (HVy.out x rx h2) (fun k (hk:n2≤k∧k < BY) _=>.inr (by omega))),by rw[HE2.out,PR.bind_assoc];rfl,by have:=HN.out.2.2;omega,HLn.out.2⟩
     have HMe2:Hid (mD pb (w8.setCell ⟨w.heap.size+1,0,none⟩ (.slice va (n+1) vc)) < mD pb wr):=Zh (by
      rw[HMe.out]
      obtain⟨_,S9,_,_,_,_,_,_,h9⟩:=HLe.out
      have hd:=HQ.out.low hadd.2.1
      have hd:=hd.ds
      have hfi:=pConst_fine (en:=en) (ts:=rest) (Nat.le_refl _)
      rw[← hs4] at hfi
      have hk:=key.1
      cases h3:s3 with
      | er q x=>
       rw[h3] at hd
       rw[mD_er hd]
       omega
      | ok u r=>
       rw[h3] at hd
       rw[mD_ok hd]
       obtain⟨y,h⟩:=hk.1 u r h3
       rw[h] at hfi
       have hfi:r.length < rest.length:=hfi
       omega)
     go_roundw
     case rel=>exact HLe
     case measure=>exact HMe2.out
    ·rw[decide_eq_false he,if_neg he] at hi
     have hnx:¬nxtT (t :: rest)=wConst:=pkS_no HQ.out.ds hL (by decide) he
     have hE:=HE.out
     rw[if_neg hnx] at hE
     have HJ:Hid (Calls Tryz.prog 32 #[Zp pb,.string ⟨#[99,111,110,115,116]⟩] u61 fun e w'=>e=.returned (.bool false)∧DS w' pb al L en 0 (PR.ok () (t :: rest):PR Unit)∧T1 pb u61 w'):=Zh hi
     have HE2:=Zh hE
     clear hi he hE hnx HE
     go_wp2_with fail
     refine HJ.out.mono ?_
     clear HJ
     rintro e u121 ⟨rfl,hds,ht⟩
     replace HM:=Zh (HM.out.keep (fun k h1 h2=>(ht).block k h2 (by have:=HC.out;omega)))
     replace HK:=Zh (HK.out.keep (fun k h1 h2=>(ht).block k h2 (by have:=HC.out;omega)))
     replace HQ:=Zh (HQ.out.call ht hds)
     replace HC:Hid (((pb < w.heap.size∧w.heap.size+1≤w.heap.size+1)∧w.heap.size+1+1≤n0)∧n0≤u121.heap.size):=Zh (by have h1:=HC.out;have h2:=ht.size;omega)
     clear ht hds
     have hi:=dis_any u121 pb al L en 0 (PR.ok () (t :: rest):PR Unit) wProc hL hlen (by decide) HQ.out.ds
     by_cases he:pkS (PR.ok () (t :: rest):PR Unit)=wProc
     ·rw[decide_eq_true he,if_pos he] at hi
      have hnx:nxtT (t :: rest)=wProc:=by
       obtain⟨_,_,e9,h9,_⟩:=pkS_ok HQ.out.ds hL (by decide) he
       cases e9
       exact h9
      obtain⟨s4,hs4⟩:∃z:PR PrS,z=pProc en rest:=⟨_,rfl⟩
      have hE:=HE2.out
      unfold pMust at hE
      rw[if_pos hnx,PR.bind_ok,List.tail_cons,← hs4] at hE
      have HE3:=Zh hE
      have HJ:Hid (Calls Tryz.prog 32 #[Zp pb,.string ⟨#[112,114,111,99]⟩] u121 fun e w'=>e=.returned (.bool true)∧DS w' pb al L en 0 (PR.ok () rest:PR Unit)∧T1 pb u121 w'):=Zh hi
      clear hi he hE hnx HE2
      go_wp2_with fail
      refine HJ.out.mono ?_
      clear HJ
      rintro e u141 ⟨rfl,hds,ht⟩
      replace HM:=Zh (HM.out.keep (fun k h1 h2=>(ht).block k h2 (by have:=HC.out;omega)))
      replace HK:=Zh (HK.out.keep (fun k h1 h2=>(ht).block k h2 (by have:=HC.out;omega)))
      replace HQ:=Zh (HQ.out.call ht hds)
      replace HC:Hid (((pb < w.heap.size∧w.heap.size+1≤w.heap.size+1)∧w.heap.size+1+1≤n0)∧n0≤u141.heap.size):=Zh (by have h1:=HC.out;have h2:=ht.size;omega)
      clear ht hds
      obtain⟨n1,hn1⟩:=nm u141.heap.size
      replace HC:=Zh (cM HC.out hn1)
      have HJ:=Zh (show Calls Tryz.prog 36 #[Zp pb] u141 (DP A7d u141 pb al L en 0 s4 (okPr (New noB u141.heap.size))) from by rw[hs4];exact dproc_any hL hlen u141 rest HQ.out.ds)
      go_wp2_with fail
      refine HJ.out.mono ?_
      clear HJ
      rintro e u142 ⟨_,rfl,⟨ds,da,dr,dw,db,daq,dac,drq,drc,dwq,dwc,dbq,dbc,dl,dm,rfl⟩,hds,ht,hv⟩
      replace HM:=Zh (HM.out.keep (fun k h1 h2=>(ht).block k h2 (by have:=HC.out;omega)))
      replace HK:=Zh (HK.out.keep (fun k h1 h2=>(ht).block k h2 (by have:=HC.out;omega)))
      replace HQ:=Zh (HQ.out.call ht hds)
      replace HC:=Zh (cU HC.out ht.size)
      clear ht hds
      obtain⟨u143,hu143⟩:=nm (u142.alloc (.cells #[.string ds,.slice da daq dac,.slice dr drq drc,.slice dw dwq dwc,.slice db dbq dbc,Zi dl,Zi dm] 73))
      obtain⟨BD,hBD⟩:=nm u142.heap.size
      have hb:Below u142.heap.size u142 u143:=by rw[hu143];exact bel_al _ _
      have HD:Hid (RowD u143 BD (.string ds) (.slice da daq dac) (.slice dr drq drc) (.slice dw dwq dwc) (.slice db dbq dbc) (Zi dl) (Zi dm)):=Zh (by rw[hu143,hBD];exact heap_alloc_new _ _ rfl)
      have HVd:Hid (OV okPr (fun k=>n1≤k∧k < BD) s4 (.agg #[.string ds,.slice da daq dac,.slice dr drq drc,.slice dw dwq dwc,.slice db dbq dbc,Zi dl,Zi dm]) u143):=Zh (OV.res hv okPr_f okPr_lt hb (fun k h1 h2=>⟨by omega,by omega⟩))
      clear hv
      have hc0:=HC.out
      replace HM:=Zh (HM.out.keep (fun k _ h2=>(hb).block k h2))
      replace HK:=Zh (HK.out.keep (fun k _ h2=>(hb).block k h2))
      replace HQ:=Zh (HQ.out.bel hb)
      replace HC:=Zh (cA HC.out hBD (blk_lt HD.out))
      clear hb hc0
      go_upto_region 11 with fail
      rw[← hu143,← hBD]
      clear hu143 hBD
      clear hn1
      have hm:=HM.out
      have HAp:=Zh (row_app defineE hm.po [.string ds,.slice da daq dac,.slice dr drq drc,.slice dw dwq dwc,.slice db dbq dbc,Zi dl,Zi dm] rfl (by intro u hu;simp at hu;rcases hu with rfl | rfl | rfl | rfl | rfl | rfl | rfl <;> rfl) (by have:=HLn.out;omega) (by have:=blk_lt hm.s;omega))
      have e1_:=hm.s.cells.2
      have f1_:=hm.s.frz.2
      clear hm
      obtain⟨x0,x1,x2,x3,x4,x5,x6⟩:=HD.out.cells
      go_wp2_with (at_builtin;refine wpL_appR rfl _ _ 23 rfl (.slice pa m pc) (.slice (some ⟨u143.heap.size,0,none⟩) 1 1) rfl rfl HAp.out ?_;rintro v2 w8 hRA;obtain⟨va,vc,rfl⟩:=hRA.shp;have e1_:w8.cell? ⟨w.heap.size+1,1,none⟩=some (.slice pa m pc):=(hRA.bel.cell (p:=⟨w.heap.size+1,1,none⟩) (by show w.heap.size+1 < w.heap.size+1+1;omega)).trans HM.out.s.cells.2;have f1_:w8.frozen? ⟨w.heap.size+1,1,none⟩=false:=frozen_of_row w8 (w.heap.size+1) 1 _ _ ((hRA.bel.block (w.heap.size+1) (by omega)).trans HM.out.s);have HRA:=Zh hRA;clear hRA)
      have hadd:=HM.out.addP (W2:=w8.setCell ⟨w.heap.size+1,1,none⟩ (.slice va (m+1) vc)) HRA.out rfl
      have HLe:Hid (∃f S i j cv pv cs ps,SLd w (w8.setCell ⟨w.heap.size+1,1,none⟩ (.slice va (m+1) vc)) pb al L en G f S i j cv pv cs ps):=Zh ⟨f,s4.bind fun c r=>.ok { acc with procs:=acc.procs ++ [c] } r,n,m+1,_,_,_,_,(HQ.out.call (T1.bel (Below.refl _ _)) (HQ.out.ds.like (like_unit s4 _))).low hadd.2.1,hadd.1,fun acc2 r e=>by
       obtain⟨c,rc,e1,e2⟩:=PR.bind_inv e
       simp only[PR.ok.injEq] at e2
       obtain⟨rfl,rfl⟩:=e2
       have hcs:=HC.out
       have hfi:=pProc_fine (en:=en) (ts:=rest) (Nat.le_refl _)
       rw[← hs4,e1] at hfi
       have hfi:rc.length < rest.length:=hfi
       obtain⟨c1,c2,c3⟩:=HN.out
       simp only[List.length_cons] at c3
       exact⟨hadd.2.2 acc c n0 HK.out rfl (okPr_f _ _ _ _ _ _ (HVd.out c rc e1) (fun k (hk:n1≤k∧k < BD)=>.inr (by omega)) (fun _ _ _=>rfl)) HRw.out (by omega),c1,by rw[List.length_append,List.length_singleton,c2],by omega⟩,by rw[HE3.out,PR.bind_assoc];rfl,HLn.out.1,by have:=HN.out.2.2;omega⟩
      have HMe2:Hid (mD pb (w8.setCell ⟨w.heap.size+1,1,none⟩ (.slice va (m+1) vc)) < mD pb wr):=Zh (by
       rw[HMe.out]
       have hd:=HQ.out.low hadd.2.1
       have hd:=hd.ds
       have hfi:=pProc_fine (en:=en) (ts:=rest) (Nat.le_refl _)
       rw[← hs4] at hfi
       cases h3:s4 with
       | er q x=>
        rw[h3] at hd
        rw[mD_er hd]
        omega
       | ok u r=>
        rw[h3] at hd hfi
        rw[mD_ok hd]
        have hfi:r.length < rest.length:=hfi
        omega)
      go_roundw
      case rel=>exact HLe
      case measure=>exact HMe2.out
     ·rw[decide_eq_false he,if_neg he] at hi
      have hnx:¬nxtT (t :: rest)=wProc:=pkS_no HQ.out.ds hL (by decide) he
      have hE:=HE2.out
      unfold pMust at hE
      rw[if_neg hnx,PR.bind_er] at hE
      have HE3:=Zh hE
      have HJ:Hid (Calls Tryz.prog 32 #[Zp pb,.string ⟨#[112,114,111,99]⟩] u121 fun e w'=>e=.returned (.bool false)∧DS w' pb al L en 0 (PR.ok () (t :: rest):PR Unit)∧T1 pb u121 w'):=Zh hi
      clear hi he hE hnx HE2
      go_wp2_with fail
      refine HJ.out.mono ?_
      clear HJ
      rintro e u161 ⟨rfl,hds,ht⟩
      replace HM:=Zh (HM.out.keep (fun k h1 h2=>(ht).block k h2 (by have:=HC.out;omega)))
      replace HK:=Zh (HK.out.keep (fun k h1 h2=>(ht).block k h2 (by have:=HC.out;omega)))
      replace HQ:=Zh (HQ.out.call ht hds)
      replace HC:Hid (((pb < w.heap.size∧w.heap.size+1≤w.heap.size+1)∧w.heap.size+1+1≤n0)∧n0≤u161.heap.size):=Zh (by have h1:=HC.out;have h2:=ht.size;omega)
      clear ht hds
      have HJ:=Zh (show Calls Tryz.prog 37 #[Zp pb] u161 (fun e w'=>e=.returned (.tuple #[])∧DS w' pb al L en 0 (PR.er (nxtP en (t :: rest)) 181:PR SrcS)∧T1 pb u161 w') from bad_any u161 pb al L en 0 (PR.ok () (t :: rest):PR Unit) HQ.out.ds)
      go_wp2_with fail
      refine HJ.out.mono ?_
      clear HJ
      rintro e u162 ⟨rfl,hds,ht⟩
      replace HM:=Zh (HM.out.keep (fun k h1 h2=>(ht).block k h2 (by have:=HC.out;omega)))
      replace HK:=Zh (HK.out.keep (fun k h1 h2=>(ht).block k h2 (by have:=HC.out;omega)))
      replace HQ:=Zh (HQ.out.call ht hds)
      replace HC:=Zh (cU HC.out ht.size)
      clear ht hds
      have HLe:Hid (∃f S i j cv pv cs ps,SLd w u162 pb al L en G f S i j cv pv cs ps):=Zh ⟨f,PR.er (nxtP en (t :: rest)) 181,n,m,_,_,_,_,HQ.out,HM.out,fun acc2 r e=>(by cases e),HE3.out,HLn.out⟩
      have HMe2:Hid (mD pb u162 < mD pb wr):=Zh (by rw[HMe.out,mD_er HQ.out.ds];omega)
      clear HE3 HQ HM HK HLn HMe HN HC HRw HT
      go_wp2_with fail
      go_roundw
      case rel=>exact HLe
      case measure=>exact HMe2.out
end Go.Proofs.YtlfooogmoigpfaaGreatDoor
