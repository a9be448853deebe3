import Derived.Test.YtlfooogmoigpfaaGreatDoorQao
import Derived.Test.YtlfooogmoigpfaaGreatDoorQap
import Derived.Test.YtlfooogmoigpfaaGreatDoorQaa
set_option maxRecDepth 100000
set_option maxHeartbeats 8000000
namespace Go.Proofs.YtlfooogmoigpfaaGreatDoor
open Go.RowKit Go.Sort Go.Shelf
theorem dprim_er {pb:Nat} {al:Value} {L:List Tok} {en:Nat × Nat} (hlen:L.length≤70000) (w:World) (nest:Nat) (p:Nat × Nat) (x:Nat) (hds:DS w pb al L en nest (PR.er p x:PR Unit)) (n0:¬pkS (PR.er p x:PR Unit)=[40]) (n1:¬pkS (PR.er p x:PR Unit)=[103,101,116]) (n2:¬pkS (PR.er p x:PR Unit)=[104,97,115]) (n3:¬pkS (PR.er p x:PR Unit)=[109,105,110]) (n4:¬pkS (PR.er p x:PR Unit)=[109,97,120]):Calls Tryz.prog 93 #[Zp pb] w (DP A7 w pb al L en nest ((PR.er p x:PR Unit).bind fun _ ts=>(pName en ts).bind fun n r=>.ok (.mk 2 0 0 n.1 [] (nxtP en ts)) r:PR Ex) (okE (New noB w.heap.size))):=by
 obtain⟨s2,hs2⟩:=nm ((PR.er p x:PR Unit).bind fun _ t=>pName en t:PR NmP)
 obtain⟨G,hG⟩:=nm ((PR.er p x:PR Unit).bind fun _ ts=>(pName en ts).bind fun n r=>.ok (.mk 2 0 0 n.1 [] (nxtP en ts)) r:PR Ex)
 rw[← hG]
 have hGe:∀q,G=s2.bind fun n r=>.ok (Ex.mk 2 0 0 n.1 [] q) r:=fun q=>by rw[hG,hs2];rfl
 clear hG
 obtain⟨u1,hu1⟩:=nm (w.alloc (.cells #[Zi 0,Zi 0,Zi 0,Ze,Zn,Zi 0,Zi 0] 66))
 have hb0:Below w.heap.size w u1:=by rw[hu1];exact bel_al _ _
 have HQ:=Zh ((DQ.start hds).bel hb0)
 have HR:Hid (Row7 u1 w.heap.size (Zi 0) (Zi 0) (Zi 0) (Ze) (Zn) (Zi 0) (Zi 0)):=Zh (by rw[hu1];exact heap_alloc_new _ _ rfl)
 have HC:=Zh (cS HQ.out.lt (blk_lt HR.out))
 clear hb0
 clear hds
 go_enter Tryz.func93,Tryz.ntmps93
 go_upto_region 1 with fail
 rw[← hu1]
 clear hu1
 obtain⟨⟨pl,pc⟩,hp,hsp⟩:=dspot_any u1 pb al L en nest (PR.er p x:PR Unit) HQ.out.ds
 go_wp2_with fail
 refine (show Calls Tryz.prog 62 #[Zp pb] u1 (fun e w2=>e=.returned (.agg #[Zi (pl:Int),Zi (pc:Int)])∧Below u1.heap.size u1 w2) from hsp).mono ?_
 rintro e u2 ⟨rfl,hb⟩
 replace HR:=Zh (HR.out.kept hb)
 replace HQ:=Zh (HQ.out.bel hb)
 replace HC:=Zh (cU HC.out hb.size)
 clear hb
 clear hsp
 obtain⟨u3,hu3⟩:=nm (u2.alloc (.cells #[Zi (pl:Int),Zi (pc:Int)] 43))
 obtain⟨BA,hBA⟩:=nm u2.heap.size
 have hb:Below u2.heap.size u2 u3:=by rw[hu3];exact bel_al _ _
 have HA:Hid (RowP u3 BA (Zi (pl:Int)) (Zi (pc:Int))):=Zh (by rw[hu3,hBA];exact heap_alloc_new _ _ rfl)
 have hc0:=HC.out
 replace HR:=Zh (HR.out.kept hb)
 replace HQ:=Zh (HQ.out.bel hb)
 replace HC:=Zh (cA HC.out hBA (blk_lt HA.out))
 clear hb hc0
 go_upto_region 2 with fail
 rw[← hu3,← hBA]
 clear hu3 hBA
 have hpk:=peek_any u3 pb al L en nest (PR.er p x:PR Unit) HQ.out.ds
 obtain⟨tx,htx⟩:=nm (S (pkS (PR.er p x:PR Unit)))
 rw[← htx] at hpk
 have q0:(tx.toList == [40])=false:=by rw[htx,S_toList];simpa using n0
 have q1:(tx.toList == [103,101,116])=false:=by rw[htx,S_toList];simpa using n1
 have q2:(tx.toList == [104,97,115])=false:=by rw[htx,S_toList];simpa using n2
 have q3:(tx.toList == [109,105,110])=false:=by rw[htx,S_toList];simpa using n3
 have q4:(tx.toList == [109,97,120])=false:=by rw[htx,S_toList];simpa using n4
 clear htx n0 n1 n2 n3 n4
 go_wp2_with fail
 refine (show Calls Tryz.prog 56 #[Zp pb] u3 (fun e w2=>e=.returned (.string tx)∧Below u3.heap.size u3 w2) from hpk).mono ?_
 rintro e u4 ⟨rfl,hb⟩
 replace HR:=Zh (HR.out.kept hb)
 replace HA:=Zh (HA.out.kept hb)
 replace HQ:=Zh (HQ.out.bel hb)
 replace HC:=Zh (cU HC.out hb.size)
 clear hb
 clear hpk
 have hGp:=hGe (pl,pc)
 obtain⟨h0,k,h1,h3,h4⟩:=HQ.out.ds
 obtain⟨_,_,_,_,_,_,c6,_⟩:=h3.cells
 obtain⟨xi,hxi⟩:∃xi:Int,xi=(x:Int):=⟨_,rfl⟩
 rw[← hxi] at c6
 have hd:(xi == 0)=false:=by simp;omega
 clear hxi h0 h1 h3 h4 hp hGe
 go_upto_region 26 with fail
 go_quiet (fail)
 have hb:Below u4.heap.size u4 (u4.drewN nq):=((Grew.refl u4).drewN nq).below
 replace HR:=Zh (HR.out.kept hb)
 replace HA:=Zh (HA.out.kept hb)
 replace HQ:=Zh (HQ.out.bel hb)
 replace HC:=Zh (cU HC.out hb.size)
 clear hb c6 hd
 generalize u4.drewN nq=u5 at *
 obtain⟨n9,hn9⟩:=nm u5.heap.size
 replace HC:=Zh (cM HC.out hn9)
 go_wp2_with fail
 refine (show Calls Tryz.prog 33 #[Zp pb] u5 (DP A3 u5 pb al L en nest s2 (okN (New noB u5.heap.size))) from by rw[hs2];exact dname_any u5 pb al L en nest hlen (PR.er p x:PR Unit) HQ.out.ds).mono ?_
 rintro e u6 ⟨_,rfl,⟨xs,xl,xm,rfl⟩,hds,ht,hv⟩
 replace HR:=Zh (HR.out.t1 ht (by have:=HC.out;omega))
 replace HA:=Zh (HA.out.t1 ht (by have:=HC.out;omega))
 replace HQ:=Zh (HQ.out.call ht hds)
 replace HC:=Zh (cU HC.out ht.size)
 clear ht hds
 obtain⟨u7,hu7⟩:=nm (u6.alloc (.cells #[.string xs,Zi xl,Zi xm] 89))
 obtain⟨BX,hBX⟩:=nm u6.heap.size
 have hb:Below u6.heap.size u6 u7:=by rw[hu7];exact bel_al _ _
 have HX:Hid (Row3 u7 BX (.string xs) (Zi xl) (Zi xm)):=Zh (by rw[hu7,hBX];exact heap_alloc_new _ _ rfl)
 have HVx:Hid (OV okN (fun k=>n9≤k∧k < BX) s2 (.agg #[.string xs,Zi xl,Zi xm]) u7):=Zh (OV.res hv okN_f okN_lt' hb (fun k h1 h2=>⟨by omega,by omega⟩))
 clear hv
 have hc0:=HC.out
 replace HR:=Zh (HR.out.kept hb)
 replace HA:=Zh (HA.out.kept hb)
 replace HQ:=Zh (HQ.out.bel hb)
 replace HC:=Zh (cA HC.out hBX (blk_lt HX.out))
 clear hb hc0
 go_upto_region 30 with fail
 rw[← hu7,← hBX]
 clear hu7 hBX
 clear hn9
 obtain⟨⟨a0,a1⟩,_⟩:=HA.out.cells
 obtain⟨⟨x0,_,_⟩,_⟩:=HX.out.cells
 have hc:=HC.out
 have HF:=Zh (dres7 (P':=New noB w.heap.size) (show DQ w u7 pb al L en nest G from HQ.out.call (T1.bel (Below.refl _ _)) (by rw[hGp];exact HQ.out.ds.like (like_unit s2 _))) (by omega) HR.out ⟨_,_,_,_,_,_,_,_,_,rfl⟩ okE_f (show OV okE (fun _=>False) G (.agg #[Zi 2,Zi 0,Zi 0,.string xs,Zn,Zi (pl:Int),Zi (pc:Int)]) _ from fun X r e=>by
   rw[hGp] at e
   obtain⟨x,rx,e2,e3⟩:=PR.bind_inv e
   simp only[PR.ok.injEq] at e3
   obtain⟨rfl,_⟩:=e3
   have h:(.agg #[.string xs,Zi xl,Zi xm]:Value)=.agg #[.string (S x.1),Zi (x.2.1:Int),Zi (x.2.2:Int)]:=HVx.out x rx e2
   simp only[Value.agg.injEq,Array.mk.injEq,List.cons.injEq,Value.string.injEq] at h
   rw[h.1]
   exact⟨_,rfl,.none⟩) (fun k hk=>hk.elim))
 obtain⟨_,f0,f1,f2,f3,f4,f5,f6⟩:=HR.out.cells
 clear HQ HR hc HC HA HX HVx hs2 hGp
 go_wp2_with fail
 obtain⟨⟨d0,d1,d2,d3,d4,d5,d6⟩,_⟩:=HF.out.1.cells
 exact bodyPost_ret (v:=.agg #[Zi 2,Zi 0,Zi 0,.string xs,Zn,Zi (pl:Int),Zi (pc:Int)]) (by simp[results,Tryz.results93,go_sem,d0,d1,d2,d3,d4,d5,d6]) rfl HF.out.2
theorem dprim_end {pb:Nat} {al:Value} {L:List Tok} {en:Nat × Nat} (hlen:L.length≤70000) (w:World) (nest:Nat) (hds:DS w pb al L en nest (PR.ok () []:PR Unit)) (n0:¬pkS (PR.ok () []:PR Unit)=[40]) (n1:¬pkS (PR.ok () []:PR Unit)=[103,101,116]) (n2:¬pkS (PR.ok () []:PR Unit)=[104,97,115]) (n3:¬pkS (PR.ok () []:PR Unit)=[109,105,110]) (n4:¬pkS (PR.ok () []:PR Unit)=[109,97,120]):Calls Tryz.prog 93 #[Zp pb] w (DP A7 w pb al L en nest ((PR.ok () []:PR Unit).bind fun _ ts=>(pName en ts).bind fun n r=>.ok (.mk 2 0 0 n.1 [] (nxtP en ts)) r:PR Ex) (okE (New noB w.heap.size))):=by
 obtain⟨s2,hs2⟩:=nm ((PR.ok () []:PR Unit).bind fun _ t=>pName en t:PR NmP)
 obtain⟨G,hG⟩:=nm ((PR.ok () []:PR Unit).bind fun _ ts=>(pName en ts).bind fun n r=>.ok (.mk 2 0 0 n.1 [] (nxtP en ts)) r:PR Ex)
 rw[← hG]
 have hGe:∀q:Nat × Nat,q=nxtP en []→G=s2.bind fun n r=>.ok (Ex.mk 2 0 0 n.1 [] q) r:=fun q hq=>by rw[hG,hs2,hq];rfl
 clear hG
 obtain⟨u1,hu1⟩:=nm (w.alloc (.cells #[Zi 0,Zi 0,Zi 0,Ze,Zn,Zi 0,Zi 0] 66))
 have hb0:Below w.heap.size w u1:=by rw[hu1];exact bel_al _ _
 have HQ:=Zh ((DQ.start hds).bel hb0)
 have HR:Hid (Row7 u1 w.heap.size (Zi 0) (Zi 0) (Zi 0) (Ze) (Zn) (Zi 0) (Zi 0)):=Zh (by rw[hu1];exact heap_alloc_new _ _ rfl)
 have HC:=Zh (cS HQ.out.lt (blk_lt HR.out))
 clear hb0
 clear hds
 go_enter Tryz.func93,Tryz.ntmps93
 go_upto_region 1 with fail
 rw[← hu1]
 clear hu1
 obtain⟨⟨pl,pc⟩,hp,hsp⟩:=dspot_any u1 pb al L en nest (PR.ok () []:PR Unit) HQ.out.ds
 go_wp2_with fail
 refine (show Calls Tryz.prog 62 #[Zp pb] u1 (fun e w2=>e=.returned (.agg #[Zi (pl:Int),Zi (pc:Int)])∧Below u1.heap.size u1 w2) from hsp).mono ?_
 rintro e u2 ⟨rfl,hb⟩
 replace HR:=Zh (HR.out.kept hb)
 replace HQ:=Zh (HQ.out.bel hb)
 replace HC:=Zh (cU HC.out hb.size)
 clear hb
 clear hsp
 obtain⟨u3,hu3⟩:=nm (u2.alloc (.cells #[Zi (pl:Int),Zi (pc:Int)] 43))
 obtain⟨BA,hBA⟩:=nm u2.heap.size
 have hb:Below u2.heap.size u2 u3:=by rw[hu3];exact bel_al _ _
 have HA:Hid (RowP u3 BA (Zi (pl:Int)) (Zi (pc:Int))):=Zh (by rw[hu3,hBA];exact heap_alloc_new _ _ rfl)
 have hc0:=HC.out
 replace HR:=Zh (HR.out.kept hb)
 replace HQ:=Zh (HQ.out.bel hb)
 replace HC:=Zh (cA HC.out hBA (blk_lt HA.out))
 clear hb hc0
 go_upto_region 2 with fail
 rw[← hu3,← hBA]
 clear hu3 hBA
 have hpk:=peek_any u3 pb al L en nest (PR.ok () []:PR Unit) HQ.out.ds
 obtain⟨tx,htx⟩:=nm (S (pkS (PR.ok () []:PR Unit)))
 rw[← htx] at hpk
 have q0:(tx.toList == [40])=false:=by rw[htx,S_toList];simpa using n0
 have q1:(tx.toList == [103,101,116])=false:=by rw[htx,S_toList];simpa using n1
 have q2:(tx.toList == [104,97,115])=false:=by rw[htx,S_toList];simpa using n2
 have q3:(tx.toList == [109,105,110])=false:=by rw[htx,S_toList];simpa using n3
 have q4:(tx.toList == [109,97,120])=false:=by rw[htx,S_toList];simpa using n4
 clear htx n0 n1 n2 n3 n4
 go_wp2_with fail
 refine (show Calls Tryz.prog 56 #[Zp pb] u3 (fun e w2=>e=.returned (.string tx)∧Below u3.heap.size u3 w2) from hpk).mono ?_
 rintro e u4 ⟨rfl,hb⟩
 replace HR:=Zh (HR.out.kept hb)
 replace HA:=Zh (HA.out.kept hb)
 replace HQ:=Zh (HQ.out.bel hb)
 replace HC:=Zh (cU HC.out hb.size)
 clear hb
 clear hpk
 have hGp:=hGe (pl,pc) (hp () _ rfl)
 obtain⟨h0,k,h1,h2,h3,h4⟩:=HQ.out.ds
 obtain⟨c0,c1,_,_,_,_,c6,_⟩:=h3.cells
 have c6:u4.cell? ⟨pb,6,none⟩=some (Zi 0):=c6
 have hke:k=L.length:=by
  have:=congrArg List.length h2
  simp at this
  omega
 subst hke
 obtain⟨ao,c,hal,_⟩:=h4
 rw[hal] at c0
 clear h0 h1 h2 h3 hp hGe hal
 go_upto_region 26 with fail
 go_quiet (fail)
 have hb:Below u4.heap.size u4 (u4.drewN nq):=((Grew.refl u4).drewN nq).below
 replace HR:=Zh (HR.out.kept hb)
 replace HA:=Zh (HA.out.kept hb)
 replace HQ:=Zh (HQ.out.bel hb)
 replace HC:=Zh (cU HC.out hb.size)
 clear hb c0 c1 c6
 generalize u4.drewN nq=u5 at *
 obtain⟨n9,hn9⟩:=nm u5.heap.size
 replace HC:=Zh (cM HC.out hn9)
 go_wp2_with fail
 refine (show Calls Tryz.prog 33 #[Zp pb] u5 (DP A3 u5 pb al L en nest s2 (okN (New noB u5.heap.size))) from by rw[hs2];exact dname_any u5 pb al L en nest hlen (PR.ok () []:PR Unit) HQ.out.ds).mono ?_
 rintro e u6 ⟨_,rfl,⟨xs,xl,xm,rfl⟩,hds,ht,hv⟩
 replace HR:=Zh (HR.out.t1 ht (by have:=HC.out;omega))
 replace HA:=Zh (HA.out.t1 ht (by have:=HC.out;omega))
 replace HQ:=Zh (HQ.out.call ht hds)
 replace HC:=Zh (cU HC.out ht.size)
 clear ht hds
 obtain⟨u7,hu7⟩:=nm (u6.alloc (.cells #[.string xs,Zi xl,Zi xm] 89))
 obtain⟨BX,hBX⟩:=nm u6.heap.size
 have hb:Below u6.heap.size u6 u7:=by rw[hu7];exact bel_al _ _
 have HX:Hid (Row3 u7 BX (.string xs) (Zi xl) (Zi xm)):=Zh (by rw[hu7,hBX];exact heap_alloc_new _ _ rfl)
 have HVx:Hid (OV okN (fun k=>n9≤k∧k < BX) s2 (.agg #[.string xs,Zi xl,Zi xm]) u7):=Zh (OV.res hv okN_f okN_lt' hb (fun k h1 h2=>⟨by omega,by omega⟩))
 clear hv
 have hc0:=HC.out
 replace HR:=Zh (HR.out.kept hb)
 replace HA:=Zh (HA.out.kept hb)
 replace HQ:=Zh (HQ.out.bel hb)
 replace HC:=Zh (cA HC.out hBX (blk_lt HX.out))
 clear hb hc0
 go_upto_region 30 with fail
 rw[← hu7,← hBX]
 clear hu7 hBX
 clear hn9
 obtain⟨⟨a0,a1⟩,_⟩:=HA.out.cells
 obtain⟨⟨x0,_,_⟩,_⟩:=HX.out.cells
 have hc:=HC.out
 have HF:=Zh (dres7 (P':=New noB w.heap.size) (show DQ w u7 pb al L en nest G from HQ.out.call (T1.bel (Below.refl _ _)) (by rw[hGp];exact HQ.out.ds.like (like_unit s2 _))) (by omega) HR.out ⟨_,_,_,_,_,_,_,_,_,rfl⟩ okE_f (show OV okE (fun _=>False) G (.agg #[Zi 2,Zi 0,Zi 0,.string xs,Zn,Zi (pl:Int),Zi (pc:Int)]) _ from fun X r e=>by
   rw[hGp] at e
   obtain⟨x,rx,e2,e3⟩:=PR.bind_inv e
   simp only[PR.ok.injEq] at e3
   obtain⟨rfl,_⟩:=e3
   have h:(.agg #[.string xs,Zi xl,Zi xm]:Value)=.agg #[.string (S x.1),Zi (x.2.1:Int),Zi (x.2.2:Int)]:=HVx.out x rx e2
   simp only[Value.agg.injEq,Array.mk.injEq,List.cons.injEq,Value.string.injEq] at h
   rw[h.1]
   exact⟨_,rfl,.none⟩) (fun k hk=>hk.elim))
 obtain⟨_,f0,f1,f2,f3,f4,f5,f6⟩:=HR.out.cells
 clear HQ HR hc HC HA HX HVx hs2 hGp
 go_wp2_with fail
 obtain⟨⟨d0,d1,d2,d3,d4,d5,d6⟩,_⟩:=HF.out.1.cells
 exact bodyPost_ret (v:=.agg #[Zi 2,Zi 0,Zi 0,.string xs,Zn,Zi (pl:Int),Zi (pc:Int)]) (by simp[results,Tryz.results93,go_sem,d0,d1,d2,d3,d4,d5,d6]) rfl HF.out.2
theorem dprim_tok {pb:Nat} {al:Value} {L:List Tok} {en:Nat × Nat} (hlen:L.length≤70000) (w:World) (nest:Nat) (t:Tok) (rest:List Tok) (ht:t.1≠3) (hds:DS w pb al L en nest (PR.ok () (t :: rest):PR Unit)) (n0:¬pkS (PR.ok () (t :: rest):PR Unit)=[40]) (n1:¬pkS (PR.ok () (t :: rest):PR Unit)=[103,101,116]) (n2:¬pkS (PR.ok () (t :: rest):PR Unit)=[104,97,115]) (n3:¬pkS (PR.ok () (t :: rest):PR Unit)=[109,105,110]) (n4:¬pkS (PR.ok () (t :: rest):PR Unit)=[109,97,120]):Calls Tryz.prog 93 #[Zp pb] w (DP A7 w pb al L en nest ((PR.ok () (t :: rest):PR Unit).bind fun _ ts=>(pName en ts).bind fun n r=>.ok (.mk 2 0 0 n.1 [] (nxtP en ts)) r:PR Ex) (okE (New noB w.heap.size))):=by
 obtain⟨s2,hs2⟩:=nm ((PR.ok () (t :: rest):PR Unit).bind fun _ t=>pName en t:PR NmP)
 obtain⟨G,hG⟩:=nm ((PR.ok () (t :: rest):PR Unit).bind fun _ ts=>(pName en ts).bind fun n r=>.ok (.mk 2 0 0 n.1 [] (nxtP en ts)) r:PR Ex)
 rw[← hG]
 have hGe:∀q:Nat × Nat,q=nxtP en (t :: rest)→G=s2.bind fun n r=>.ok (Ex.mk 2 0 0 n.1 [] q) r:=fun q hq=>by rw[hG,hs2,hq];rfl
 clear hG
 obtain⟨u1,hu1⟩:=nm (w.alloc (.cells #[Zi 0,Zi 0,Zi 0,Ze,Zn,Zi 0,Zi 0] 66))
 have hb0:Below w.heap.size w u1:=by rw[hu1];exact bel_al _ _
 have HQ:=Zh ((DQ.start hds).bel hb0)
 have HR:Hid (Row7 u1 w.heap.size (Zi 0) (Zi 0) (Zi 0) (Ze) (Zn) (Zi 0) (Zi 0)):=Zh (by rw[hu1];exact heap_alloc_new _ _ rfl)
 have HC:=Zh (cS HQ.out.lt (blk_lt HR.out))
 clear hb0
 clear hds
 go_enter Tryz.func93,Tryz.ntmps93
 go_upto_region 1 with fail
 rw[← hu1]
 clear hu1
 obtain⟨⟨pl,pc⟩,hp,hsp⟩:=dspot_any u1 pb al L en nest (PR.ok () (t :: rest):PR Unit) HQ.out.ds
 go_wp2_with fail
 refine (show Calls Tryz.prog 62 #[Zp pb] u1 (fun e w2=>e=.returned (.agg #[Zi (pl:Int),Zi (pc:Int)])∧Below u1.heap.size u1 w2) from hsp).mono ?_
 rintro e u2 ⟨rfl,hb⟩
 replace HR:=Zh (HR.out.kept hb)
 replace HQ:=Zh (HQ.out.bel hb)
 replace HC:=Zh (cU HC.out hb.size)
 clear hb
 clear hsp
 obtain⟨u3,hu3⟩:=nm (u2.alloc (.cells #[Zi (pl:Int),Zi (pc:Int)] 43))
 obtain⟨BA,hBA⟩:=nm u2.heap.size
 have hb:Below u2.heap.size u2 u3:=by rw[hu3];exact bel_al _ _
 have HA:Hid (RowP u3 BA (Zi (pl:Int)) (Zi (pc:Int))):=Zh (by rw[hu3,hBA];exact heap_alloc_new _ _ rfl)
 have hc0:=HC.out
 replace HR:=Zh (HR.out.kept hb)
 replace HQ:=Zh (HQ.out.bel hb)
 replace HC:=Zh (cA HC.out hBA (blk_lt HA.out))
 clear hb hc0
 go_upto_region 2 with fail
 rw[← hu3,← hBA]
 clear hu3 hBA
 have hpk:=peek_any u3 pb al L en nest (PR.ok () (t :: rest):PR Unit) HQ.out.ds
 obtain⟨tx,htx⟩:=nm (S (pkS (PR.ok () (t :: rest):PR Unit)))
 rw[← htx] at hpk
 have q0:(tx.toList == [40])=false:=by rw[htx,S_toList];simpa using n0
 have q1:(tx.toList == [103,101,116])=false:=by rw[htx,S_toList];simpa using n1
 have q2:(tx.toList == [104,97,115])=false:=by rw[htx,S_toList];simpa using n2
 have q3:(tx.toList == [109,105,110])=false:=by rw[htx,S_toList];simpa using n3
 have q4:(tx.toList == [109,97,120])=false:=by rw[htx,S_toList];simpa using n4
 clear htx n0 n1 n2 n3 n4
 go_wp2_with fail
 refine (show Calls Tryz.prog 56 #[Zp pb] u3 (fun e w2=>e=.returned (.string tx)∧Below u3.heap.size u3 w2) from hpk).mono ?_
 rintro e u4 ⟨rfl,hb⟩
 replace HR:=Zh (HR.out.kept hb)
 replace HA:=Zh (HA.out.kept hb)
 replace HQ:=Zh (HQ.out.bel hb)
 replace HC:=Zh (cU HC.out hb.size)
 clear hb
 clear hpk
 have hGp:=hGe (pl,pc) (hp () _ rfl)
 obtain⟨h0,k,h1,h2,h3,h4⟩:=HQ.out.ds
 obtain⟨c0,c1,_,_,_,_,c6,_⟩:=h3.cells
 have c6:u4.cell? ⟨pb,6,none⟩=some (Zi 0):=c6
 obtain⟨g,o,c,hal,hg,hkn,d0,_⟩:=tsAt_tok h4 h2.symm
 rw[hal] at c0
 obtain⟨ki,hki⟩:∃ki:Int,ki=(t.1:Int):=⟨_,rfl⟩
 rw[← hki] at d0
 have hd1:(ki == 3)=false:=by simp;omega
 have hgd:decide (k < L.length)=true:=by simp;omega
 have hgk:(k:Int) < (L.length:Int):=by omega
 obtain⟨nn,hnn⟩:=nm (L.length)
 rw[← hnn] at c0 hgd hgk
 clear hki h0 h1 h2 h3 h4 hp hGe hal hg hkn hnn
 go_upto_region 26 with fail
 go_quiet (fail)
 have hb:Below u4.heap.size u4 (u4.drewN nq):=((Grew.refl u4).drewN nq).below
 replace HR:=Zh (HR.out.kept hb)
 replace HA:=Zh (HA.out.kept hb)
 replace HQ:=Zh (HQ.out.bel hb)
 replace HC:=Zh (cU HC.out hb.size)
 clear hb c0 c1 c6 d0 hd1 hgd hgk
 generalize u4.drewN nq=u5 at *
 obtain⟨n9,hn9⟩:=nm u5.heap.size
 replace HC:=Zh (cM HC.out hn9)
 go_wp2_with fail
 refine (show Calls Tryz.prog 33 #[Zp pb] u5 (DP A3 u5 pb al L en nest s2 (okN (New noB u5.heap.size))) from by rw[hs2];exact dname_any u5 pb al L en nest hlen (PR.ok () (t :: rest):PR Unit) HQ.out.ds).mono ?_
 rintro e u6 ⟨_,rfl,⟨xs,xl,xm,rfl⟩,hds,ht,hv⟩
 replace HR:=Zh (HR.out.t1 ht (by have:=HC.out;omega))
 replace HA:=Zh (HA.out.t1 ht (by have:=HC.out;omega))
 replace HQ:=Zh (HQ.out.call ht hds)
 replace HC:=Zh (cU HC.out ht.size)
 clear ht hds
 obtain⟨u7,hu7⟩:=nm (u6.alloc (.cells #[.string xs,Zi xl,Zi xm] 89))
 obtain⟨BX,hBX⟩:=nm u6.heap.size
 have hb:Below u6.heap.size u6 u7:=by rw[hu7];exact bel_al _ _
 have HX:Hid (Row3 u7 BX (.string xs) (Zi xl) (Zi xm)):=Zh (by rw[hu7,hBX];exact heap_alloc_new _ _ rfl)
 have HVx:Hid (OV okN (fun k=>n9≤k∧k < BX) s2 (.agg #[.string xs,Zi xl,Zi xm]) u7):=Zh (OV.res hv okN_f okN_lt' hb (fun k h1 h2=>⟨by omega,by omega⟩))
 clear hv
 have hc0:=HC.out
 replace HR:=Zh (HR.out.kept hb)
 replace HA:=Zh (HA.out.kept hb)
 replace HQ:=Zh (HQ.out.bel hb)
 replace HC:=Zh (cA HC.out hBX (blk_lt HX.out))
 clear hb hc0
 go_upto_region 30 with fail
 rw[← hu7,← hBX]
 clear hu7 hBX
 clear hn9
 obtain⟨⟨a0,a1⟩,_⟩:=HA.out.cells
 obtain⟨⟨x0,_,_⟩,_⟩:=HX.out.cells
 have hc:=HC.out
 have HF:=Zh (dres7 (P':=New noB w.heap.size) (show DQ w u7 pb al L en nest G from HQ.out.call (T1.bel (Below.refl _ _)) (by rw[hGp];exact HQ.out.ds.like (like_unit s2 _))) (by omega) HR.out ⟨_,_,_,_,_,_,_,_,_,rfl⟩ okE_f (show OV okE (fun _=>False) G (.agg #[Zi 2,Zi 0,Zi 0,.string xs,Zn,Zi (pl:Int),Zi (pc:Int)]) _ from fun X r e=>by
   rw[hGp] at e
   obtain⟨x,rx,e2,e3⟩:=PR.bind_inv e
   simp only[PR.ok.injEq] at e3
   obtain⟨rfl,_⟩:=e3
   have h:(.agg #[.string xs,Zi xl,Zi xm]:Value)=.agg #[.string (S x.1),Zi (x.2.1:Int),Zi (x.2.2:Int)]:=HVx.out x rx e2
   simp only[Value.agg.injEq,Array.mk.injEq,List.cons.injEq,Value.string.injEq] at h
   rw[h.1]
   exact⟨_,rfl,.none⟩) (fun k hk=>hk.elim))
 obtain⟨_,f0,f1,f2,f3,f4,f5,f6⟩:=HR.out.cells
 clear HQ HR hc HC HA HX HVx hs2 hGp
 go_wp2_with fail
 obtain⟨⟨d0,d1,d2,d3,d4,d5,d6⟩,_⟩:=HF.out.1.cells
 exact bodyPost_ret (v:=.agg #[Zi 2,Zi 0,Zi 0,.string xs,Zn,Zi (pl:Int),Zi (pc:Int)]) (by simp[results,Tryz.results93,go_sem,d0,d1,d2,d3,d4,d5,d6]) rfl HF.out.2
theorem dprim_num {pb:Nat} {al:Value} {L:List Tok} {en:Nat × Nat} (hlen:L.length≤70000) (w:World) (nest:Nat) (t:Tok) (rest:List Tok) (ht:t.1=3) (hds:DS w pb al L en nest (PR.ok () (t :: rest):PR Unit)) (n0:¬pkS (PR.ok () (t :: rest):PR Unit)=[40]) (n1:¬pkS (PR.ok () (t :: rest):PR Unit)=[103,101,116]) (n2:¬pkS (PR.ok () (t :: rest):PR Unit)=[104,97,115]) (n3:¬pkS (PR.ok () (t :: rest):PR Unit)=[109,105,110]) (n4:¬pkS (PR.ok () (t :: rest):PR Unit)=[109,97,120]):Calls Tryz.prog 93 #[Zp pb] w (DP A7 w pb al L en nest (PR.ok (.mk 1 0 t.2.2.1 [] [] (nxtP en (t :: rest))) rest:PR Ex) (okE (New noB w.heap.size))):=by
 obtain⟨u1,hu1⟩:=nm (w.alloc (.cells #[Zi 0,Zi 0,Zi 0,Ze,Zn,Zi 0,Zi 0] 66))
 have hb0:Below w.heap.size w u1:=by rw[hu1];exact bel_al _ _
 have HQ:=Zh ((DQ.start hds).bel hb0)
 have HR:Hid (Row7 u1 w.heap.size (Zi 0) (Zi 0) (Zi 0) (Ze) (Zn) (Zi 0) (Zi 0)):=Zh (by rw[hu1];exact heap_alloc_new _ _ rfl)
 have HC:=Zh (cS HQ.out.lt (blk_lt HR.out))
 clear hb0
 clear hds
 go_enter Tryz.func93,Tryz.ntmps93
 go_upto_region 1 with fail
 rw[← hu1]
 clear hu1
 obtain⟨⟨pl,pc⟩,hp,hsp⟩:=dspot_any u1 pb al L en nest (PR.ok () (t :: rest):PR Unit) HQ.out.ds
 go_wp2_with fail
 refine (show Calls Tryz.prog 62 #[Zp pb] u1 (fun e w2=>e=.returned (.agg #[Zi (pl:Int),Zi (pc:Int)])∧Below u1.heap.size u1 w2) from hsp).mono ?_
 rintro e u2 ⟨rfl,hb⟩
 replace HR:=Zh (HR.out.kept hb)
 replace HQ:=Zh (HQ.out.bel hb)
 replace HC:=Zh (cU HC.out hb.size)
 clear hb
 clear hsp
 obtain⟨u3,hu3⟩:=nm (u2.alloc (.cells #[Zi (pl:Int),Zi (pc:Int)] 43))
 obtain⟨BA,hBA⟩:=nm u2.heap.size
 have hb:Below u2.heap.size u2 u3:=by rw[hu3];exact bel_al _ _
 have HA:Hid (RowP u3 BA (Zi (pl:Int)) (Zi (pc:Int))):=Zh (by rw[hu3,hBA];exact heap_alloc_new _ _ rfl)
 have hc0:=HC.out
 replace HR:=Zh (HR.out.kept hb)
 replace HQ:=Zh (HQ.out.bel hb)
 replace HC:=Zh (cA HC.out hBA (blk_lt HA.out))
 clear hb hc0
 go_upto_region 2 with fail
 rw[← hu3,← hBA]
 clear hu3 hBA
 have hpk:=peek_any u3 pb al L en nest (PR.ok () (t :: rest):PR Unit) HQ.out.ds
 obtain⟨tx,htx⟩:=nm (S (pkS (PR.ok () (t :: rest):PR Unit)))
 rw[← htx] at hpk
 have q0:(tx.toList == [40])=false:=by rw[htx,S_toList];simpa using n0
 have q1:(tx.toList == [103,101,116])=false:=by rw[htx,S_toList];simpa using n1
 have q2:(tx.toList == [104,97,115])=false:=by rw[htx,S_toList];simpa using n2
 have q3:(tx.toList == [109,105,110])=false:=by rw[htx,S_toList];simpa using n3
 have q4:(tx.toList == [109,97,120])=false:=by rw[htx,S_toList];simpa using n4
 clear htx n0 n1 n2 n3 n4
 go_wp2_with fail
 refine (show Calls Tryz.prog 56 #[Zp pb] u3 (fun e w2=>e=.returned (.string tx)∧Below u3.heap.size u3 w2) from hpk).mono ?_
 rintro e u4 ⟨rfl,hb⟩
 replace HR:=Zh (HR.out.kept hb)
 replace HA:=Zh (HA.out.kept hb)
 replace HQ:=Zh (HQ.out.bel hb)
 replace HC:=Zh (cU HC.out hb.size)
 clear hb
 clear hpk
 have hpp:=hp () _ rfl
 clear hp
 obtain⟨h0,k,h1,h2,h3,h4⟩:=HQ.out.ds
 obtain⟨c0,c1,_,_,_,_,c6,_⟩:=h3.cells
 have c6:u4.cell? ⟨pb,6,none⟩=some (Zi 0):=c6
 obtain⟨tk,tx,nv,tl,tc⟩:=t
 have htk:tk=3:=ht
 subst htk
 obtain⟨g,o,c,hal,hg,hkn,d0,_,d2,_⟩:=tsAt_tok h4 h2.symm
 rw[hal] at c0
 have d0:u4.cell? ⟨g,o+k * 5,none⟩=some (Zi 3):=d0
 have d2:u4.cell? ⟨g,o+k * 5+2,none⟩=some (Zi nv):=d2
 have hgd:decide (k < L.length)=true:=by simp;omega
 have hgk:(k:Int) < (L.length:Int):=by omega
 obtain⟨nn,hnn⟩:=nm (L.length)
 rw[← hnn] at c0 hgd hgk
 have HK:Hid (k < L.length∧L.drop k=(3,tx,nv,tl,tc) :: rest∧g < pb∧nest≤200∧al=.slice (some ⟨g,o,none⟩) nn c∧nn=L.length):=Zh ⟨hkn,h2.symm,hg,h0,by rw[hal,hnn],hnn⟩
 have HD2:=Zh d2
 have HX:=Zh h3
 have HT:=Zh h4
 clear h0 h1 h2 h3 h4 hal hg hkn hnn
 go_upto_region 26 with fail
 go_quiet (fail)
 have hb:Below u4.heap.size u4 (u4.drewN nq):=((Grew.refl u4).drewN nq).below
 have d2:(u4.drewN nq).cell? ⟨g,o+k * 5+2,none⟩=some (Zi nv):=(hb.cell (cell_lt HD2.out)).trans HD2.out
 have HX2:=Zh (HX.out.kept hb)
 have HT2:Hid (TsAt (u4.drewN nq) pb al L):=Zh (HT.out.same (fun j hj=>hb.block j (Nat.lt_trans hj (blk_lt HX.out))))
 have HD3:=Zh d2
 clear HX HT HD2 d2
 replace HR:=Zh (HR.out.kept hb)
 replace HA:=Zh (HA.out.kept hb)
 replace HQ:=Zh (HQ.out.bel hb)
 replace HC:=Zh (cU HC.out hb.size)
 clear hb c0 c1 c6 d0 hgd
 generalize u4.drewN nq=u5 at *
 have hx:=HX2.out
 obtain⟨_,c1,_⟩:=hx.cells
 obtain⟨f1,_⟩:=hx.frz
 obtain⟨k1,hk1⟩:∃k1:Int,k1=((k+1:Nat):Int):=⟨_,rfl⟩
 have hk7:k≤70000:=by have:=HK.out;omega
 have hw1:IntKind.i64.wrap ((k:Int)+1)=k1:=by rw[IntKind.wrap_i64];omega
 have hw2:IntKind.i64.wrap (k1 - 1)=(k:Int):=by rw[IntKind.wrap_i64];omega
 obtain⟨u6,hu6⟩:=nm (u5.setCell ⟨pb,1,none⟩ (Zi k1))
 have ht:T1 pb u5 u6:=by rw[hu6];exact T1.set
 have hds2:DS u6 pb al L en nest (PR.ok () rest:PR Unit):=by
  have h:=DS.next () HK.out.2.2.2.1 HK.out.1 hx HT2.out
  rw[HK.out.2.1] at h
  rw[hu6,hk1];exact h
 have hx2:DBx u6 pb al (k+1) en (0,0) 0 nest:=by rw[hu6,hk1];exact hx.setAt (k+1)
 have HCX:Hid (u6.cell? ⟨pb,0,none⟩=some (.slice (some ⟨g,o,none⟩) nn c)∧u6.cell? ⟨pb,1,none⟩=some (Zi k1)∧u6.cell? ⟨g,o+k * 5+2,none⟩=some (Zi nv)):=Zh (by
  have h0:=hx2.cells
  rw[HK.out.2.2.2.2.1] at h0
  refine⟨h0.1,by rw[hk1];exact h0.2.1,ht.cell HD3.out (by have:=HK.out;omega)⟩)
 clear hx hx2 HX2 HT2 HD3 hk7
 replace HR:=Zh (HR.out.t1 ht (by have:=HC.out;omega))
 replace HA:=Zh (HA.out.t1 ht (by have:=HC.out;omega))
 replace HQ:=Zh (HQ.out.call ht hds2)
 replace HC:=Zh (cU HC.out ht.size)
 clear ht hds2 hk1
 go_upto_region 28 with fail
 rw[← hu6]
 clear hu6 c1 f1 hw1
 have hbd:Below u6.heap.size u6 u6.drew:=((Grew.refl u6).drew).below
 have HS1:Hid ((fun (w9:World)=>w9.cell? ⟨pb,0,none⟩=some (.slice (some ⟨g,o,none⟩) nn c)∧w9.cell? ⟨pb,1,none⟩=some (Zi k1)∧w9.cell? ⟨g,o+k * 5+2,none⟩=some (Zi nv)∧w9.cell? ⟨BA,0,none⟩=some (Zi (pl:Int))∧w9.cell? ⟨BA,1,none⟩=some (Zi (pc:Int))) u6.drew):=Zh ⟨HCX.out.1,HCX.out.2.1,HCX.out.2.2,HA.out.cells.1.1,HA.out.cells.1.2⟩
 have HRd:Hid (Row7 u6.drew w.heap.size (Zi 0) (Zi 0) (Zi 0) (Ze) (Zn) (Zi 0) (Zi 0)):=Zh (HR.out.kept hbd)
 have HS2:Hid ((fun (w9:World)=>w9.cell? ⟨pb,0,none⟩=some (.slice (some ⟨g,o,none⟩) nn c)∧w9.cell? ⟨pb,1,none⟩=some (Zi k1)∧w9.cell? ⟨g,o+k * 5+2,none⟩=some (Zi nv)∧w9.cell? ⟨BA,0,none⟩=some (Zi (pl:Int))∧w9.cell? ⟨BA,1,none⟩=some (Zi (pc:Int))) (put7 u6.drew w.heap.size (Zi 1) (Zi 0) (Zi nv) (Ze) (Zn) (Zi (pl:Int)) (Zi (pc:Int)))):=Zh (by
  have hc:=HC.out
  have hk:=HK.out
  have e:∀q j,q≠w.heap.size→(put7 u6.drew w.heap.size (Zi 1) (Zi 0) (Zi nv) (Ze) (Zn) (Zi (pl:Int)) (Zi (pc:Int))).cell? ⟨q,j,none⟩=u6.drew.cell? ⟨q,j,none⟩:=fun q j hq=>by
   unfold World.cell?
   rw[put7_other hq]
  have h:=HS1.out
  exact⟨(e pb 0 (by omega)).trans h.1,(e pb 1 (by omega)).trans h.2.1,(e g _ (by omega)).trans h.2.2.1,(e BA 0 (by omega)).trans h.2.2.2.1,(e BA 1 (by omega)).trans h.2.2.2.2⟩)
 have HF:=Zh (dres7 (G:=(PR.ok (Ex.mk 1 0 nv [] [] (nxtP en ((3,tx,nv,tl,tc) :: rest))) rest:PR Ex)) (P:=fun _=>False) (P':=New noB w.heap.size) ((HQ.out.call (T1.bel (Below.refl _ _)) (HQ.out.ds.like (like_ok _ _ _))).bel hbd) (Nat.le_refl _) HRd.out ⟨_,_,_,_,_,_,_,_,_,rfl⟩ okE_f (show OV okE (fun _=>False) _ (.agg #[Zi 1,Zi 0,Zi nv,Ze,Zn,Zi (pl:Int),Zi (pc:Int)]) _ from fun X r e=>by
  cases e
  rw[← hpp]
  exact⟨_,rfl,.none⟩) (fun k hk=>hk.elim))
 obtain⟨_,f0,f1,f2,f3,f4,f5,f6⟩:=HRd.out.cells
 clear HQ HR HRd HC HA HK HCX hbd hpp
 refine wp_region_held_drew (S:=fun (w9:World)=>w9.cell? ⟨pb,0,none⟩=some (.slice (some ⟨g,o,none⟩) nn c)∧w9.cell? ⟨pb,1,none⟩=some (Zi k1)∧w9.cell? ⟨g,o+k * 5+2,none⟩=some (Zi nv)∧w9.cell? ⟨BA,0,none⟩=some (Zi (pl:Int))∧w9.cell? ⟨BA,1,none⟩=some (Zi (pc:Int))) (by kernel_rfl) ?_ (fun hHeld=>?_)
 ·exact HS1.out
 refine wpAnyH_take (i:=0) (v:=Zp pb) rfl (by kernel_rfl) (by kernel_rfl) (by kernel_rfl) (fun _ _ _ h=>h) (Or.inl ⟨by rfl,by intro w hSw;(try dsimp only at hSw);go_simp⟩) (by assumption) ?_
 refine wpAnyH_take (i:=1) (v:=Zp pb) rfl (by kernel_rfl) (by kernel_rfl) (by kernel_rfl) (fun _ _ _ h=>h) (Or.inl ⟨by rfl,by intro w hSw;(try dsimp only at hSw);go_simp⟩) (by assumption) ?_
 refine wpAnyH_take (i:=2) (v:=Zp pb) rfl (by kernel_rfl) (by kernel_rfl) (by kernel_rfl) (fun _ _ _ h=>h) (Or.inl ⟨by rfl,by intro w hSw;(try dsimp only at hSw);go_simp⟩) (by assumption) ?_
 refine wpAnyH_take (i:=3) (v:=.slice (some ⟨g,o,none⟩) nn c) rfl (by kernel_rfl) (by kernel_rfl) (by kernel_rfl) (fun _ _ _ h=>h) (Or.inl ⟨by rfl,by intro w hSw;(try dsimp only at hSw);go_simp⟩) (by assumption) ?_
 refine wpAnyH_take (i:=4) (v:=Zp pb) rfl (by kernel_rfl) (by kernel_rfl) (by kernel_rfl) (fun _ _ _ h=>h) (Or.inl ⟨by rfl,by intro w hSw;(try dsimp only at hSw);go_simp⟩) (by assumption) ?_
 refine wpAnyH_take (i:=5) (v:=Zp pb) rfl (by kernel_rfl) (by kernel_rfl) (by kernel_rfl) (fun _ _ _ h=>h) (Or.inl ⟨by rfl,by intro w hSw;(try dsimp only at hSw);go_simp⟩) (by assumption) ?_
 refine wpAnyH_take (i:=6) (v:=.pointer (some ⟨pb,1,none⟩)) rfl (by kernel_rfl) (by kernel_rfl) (by kernel_rfl) (fun _ _ _ h=>h) (Or.inl ⟨by rfl,by intro w hSw;(try dsimp only at hSw);go_simp⟩) (by assumption) ?_
 refine wpAnyH_take (i:=7) (v:=Zi k1) rfl (by kernel_rfl) (by kernel_rfl) (by kernel_rfl) (fun _ _ _ h=>h) (Or.inl ⟨by rfl,by intro w hSw;(try dsimp only at hSw);go_simp⟩) (by assumption) ?_
 refine wpAnyH_take (i:=8) (v:=Zi (k:Int)) rfl (by kernel_rfl) (by kernel_rfl) (by kernel_rfl) (fun _ _ _ h=>h) (Or.inl ⟨by rfl,by intro w hSw;(try dsimp only at hSw);go_simp⟩) (by assumption) ?_
 refine wpAnyH_take (i:=9) (v:=.pointer (some ⟨g,o+k * 5,none⟩)) rfl (by kernel_rfl) (by kernel_rfl) (by kernel_rfl) (fun _ _ _ h=>h) (Or.inl ⟨by rfl,by intro w hSw;(try dsimp only at hSw);go_simp⟩) (by assumption) ?_
 refine wpAnyH_take (i:=10) (v:=.pointer (some ⟨g,o+k * 5+2,none⟩)) rfl (by kernel_rfl) (by kernel_rfl) (by kernel_rfl) (fun _ _ _ h=>h) (Or.inl ⟨by rfl,by intro w hSw;(try dsimp only at hSw);go_simp⟩) (by assumption) ?_
 refine wpAnyH_take (i:=11) (v:=Zi nv) rfl (by kernel_rfl) (by kernel_rfl) (by kernel_rfl) (fun _ _ _ h=>h) (Or.inl ⟨by rfl,by intro w hSw;(try dsimp only at hSw);go_simp⟩) (by assumption) ?_
 refine wpAnyH_take (i:=12) (v:=.agg #[Zi (pl:Int),Zi (pc:Int)]) rfl (by kernel_rfl) (by kernel_rfl) (by kernel_rfl) (fun _ _ _ h=>h) (Or.inl ⟨by rfl,by intro w hSw;(try dsimp only at hSw);go_simp⟩) (by assumption) ?_
 refine wpAnyH_take (i:=13) (v:=.agg #[Zi 1,Zi 0,Zi nv,Ze,Zn,Zi (pl:Int),Zi (pc:Int)]) rfl (by kernel_rfl) (by kernel_rfl) (by kernel_rfl) (fun _ _ _ h=>h) (Or.inl ⟨by rfl,by intro w hSw;(try dsimp only at hSw);go_simp⟩) (by assumption) ?_
 refine wpAnyH_ready (rs:=[14]) (by kernel_rfl) (by simp) ?_
 refine AllReadyH.cons rfl (fun K hK=>?_) AllReadyH.nil
 generalize u6.drew=U9 at *
 go_simp
 refine hK.out _ _ (by exact HS2.out) (fun hHeld=>?_)
 clear hK K HS1 HS2
 refine wpAnyH_done (by kernel_rfl) ?_ _
 go_wp2_with fail
 obtain⟨⟨d0,d1,d2,d3,d4,d5,d6⟩,_⟩:=HF.out.1.cells
 exact bodyPost_ret (v:=.agg #[Zi 1,Zi 0,Zi nv,Ze,Zn,Zi (pl:Int),Zi (pc:Int)]) (by simp[results,Tryz.results93,go_sem,d0,d1,d2,d3,d4,d5,d6]) rfl HF.out.2
theorem dexpr_lo {pb:Nat} {al:Value} {L:List Tok} {en:Nat × Nat} {f0:Nat} (hL0:TksOk L) (hlen0:L.length≤70000) (hX0:∀g,g < f0→DCx pb al L en g) (w:World) (ts:List Tok) (nest rank:Nat) (h2:2≤rank) (h10:rank≤10) (hds:DS w pb al L en nest (PR.ok () ts:PR Unit)) (hne:pJo en f0 (rank - 1) nest ts≠.er (0,0) 0):Calls Tryz.prog 57 #[Zp pb,Zi (rank:Int)] w (DP A7 w pb al L en nest (pJo en f0 (rank - 1) nest ts) (okE (New noB w.heap.size))):=by
 obtain⟨f,rfl⟩:∃f',f0=f'+1:=by
  cases f0 with
  | zero=>exact absurd (by simp only[pJo]) hne
  | succ f=>exact⟨f,rfl⟩
 rw[pJo_lt en f (rank - 1) nest ts (by omega),show rank - 1+1=rank by omega] at hne ⊢
 have hn:nest≤200:=hds.1
 obtain⟨s1,hs1⟩:=nm (pJo en f rank nest ts:PR Ex)
 obtain⟨G,hG⟩:=nm ((pJo en f rank nest ts).bind fun x r=>pLo en f (rank - 1) nest x r:PR Ex)
 rw[← hG] at hne ⊢
 rw[← hs1] at hG
 have hne1:s1≠.er (0,0) 0:=fun h=>hne (by rw[hG,h];rfl)
 have hX:∀g,g≤f→∀(U:World) (s:PR Unit),DS U pb al L en nest s→(s.bind fun _ ts=>pJo en g rank nest ts)≠.er (0,0) 0→Calls Tryz.prog 57 #[Zp pb,Zi ((rank:Int)+1)] U (DP A7 U pb al L en nest (s.bind fun _ ts=>pJo en g rank nest ts) (okE (New noB U.heap.size))):=fun g hg U s hU hn2=>by
  have e:∀ts,dpE en g (rank+1) nest ts=pJo en g rank nest ts:=fun ts=>by unfold dpE;rw[if_neg (by omega),show rank+1 - 1=rank by omega]
  have h:=hX0 g (by omega) U s nest (rank+1) (by omega) (by omega) hU (by simp only[e];exact hn2)
  simp only[e] at h
  exact h
 have HXs:=Zh hX
 have HNe:=Zh hne
 have HRk:Hid (2≤rank∧rank≤10):=Zh ⟨h2,h10⟩
 have hr1:((rank:Int) == 1)=false:=by simp;omega
 have hr11:((rank:Int) == 11)=false:=by simp;omega
 have hr12:((rank:Int) == 12)=false:=by simp;omega
 have hrA:(rank:Int)≤10:=by omega
 have hrB:(2:Int)≤(rank:Int):=by omega
 have c60:∀U,DS U pb al L en nest (PR.ok () ts)→U.cell? ⟨pb,6,none⟩=some (Zi 0):=fun U hU=>by obtain⟨_,k,_,_,h3,_⟩:=hU;exact h3.cells.2.2.2.2.2.2.1
 obtain⟨u1,hu1⟩:=nm (w.alloc (.cells #[Zi 0,Zi 0,Zi 0,Ze,Zn,Zi 0,Zi 0] 66))
 have hb0:Below w.heap.size w u1:=by rw[hu1];exact bel_al _ _
 have HQ:=Zh ((DQ.start hds).bel hb0)
 have HR:Hid (Row7 u1 w.heap.size (Zi 0) (Zi 0) (Zi 0) (Ze) (Zn) (Zi 0) (Zi 0)):=Zh (by rw[hu1];exact heap_alloc_new _ _ rfl)
 have HC:=Zh (cS HQ.out.lt (blk_lt HR.out))
 clear hb0
 have c6:=c60 _ HQ.out.ds
 clear c60 hne hX hX0 h2 h10
 clear hds
 go_enter Tryz.func57,Tryz.ntmps57
 go_upto_region 1 with fail
 rw[← hu1]
 clear hu1
 obtain⟨n2,hn2⟩:=nm u1.heap.size
 replace HC:=Zh (cM HC.out hn2)
 go_wp2_with fail
 refine (show Calls Tryz.prog 57 #[Zp pb,Zi ((rank:Int)+1)] u1 (DP A7 u1 pb al L en nest s1 (okE (New noB u1.heap.size))) from by rw[hs1];exact HXs.out f (Nat.le_refl _) u1 (.ok () ts) HQ.out.ds (by rw[PR.bind_ok,← hs1];exact hne1)).mono ?_
 rintro e u2 ⟨_,rfl,⟨xk,xo,xn,xl,xm,xs,xa,xq,xc,rfl⟩,hds,ht,hv⟩
 replace HR:=Zh (HR.out.t1 ht (by have:=HC.out;omega))
 replace HQ:=Zh (HQ.out.call ht hds)
 replace HC:=Zh (cU HC.out ht.size)
 clear ht hds
 obtain⟨u3,hu3⟩:=nm (u2.alloc (.cells #[Zi xk,Zi xo,Zi xn,.string xs,.slice xa xq xc,Zi xl,Zi xm] 66))
 obtain⟨BX,hBX⟩:=nm u2.heap.size
 have hb:Below u2.heap.size u2 u3:=by rw[hu3];exact bel_al _ _
 have HX:Hid (Row7 u3 BX (Zi xk) (Zi xo) (Zi xn) (.string xs) (.slice xa xq xc) (Zi xl) (Zi xm)):=Zh (by rw[hu3,hBX];exact heap_alloc_new _ _ rfl)
 have HVx:Hid (OV okE (fun k=>n2≤k∧k < BX) s1 (.agg #[Zi xk,Zi xo,Zi xn,.string xs,.slice xa xq xc,Zi xl,Zi xm]) u3):=Zh (OV.res hv okE_f okE_lt' hb (fun k h1 h2=>⟨by omega,by omega⟩))
 clear hv
 have hc0:=HC.out
 replace HR:=Zh (HR.out.kept hb)
 replace HQ:=Zh (HQ.out.bel hb)
 replace HC:=Zh (cA HC.out hBX (blk_lt HX.out))
 clear hb hc0
 go_upto_region 11 with fail
 rw[← hu3,← hBX]
 clear hu3 hBX
 clear hn2
 clear c6
 have hc:=HC.out
 have HL:Hid (∃g S kk oo nn ll cc ss aa qq qc,DLx w u3 pb al L en nest rank f G g S BX kk oo nn ll cc ss aa qq qc):=Zh ⟨f,s1,xk,xo,xn,xl,xm,xs,xa,xq,xc,Nat.le_refl _,HQ.out,HR.out,HX.out,HVx.out.keep okE_f (fun k hk=>⟨by omega,by omega⟩) (fun _ _ _=>rfl),hG,by omega⟩
 clear hc HC HQ HR HX HVx hG hne1 hs1
 go_loopw[] (fun wr=>Hid (∃g S kk oo nn ll cc ss aa qq qc,DLx w wr pb al L en nest rank f G g S BX kk oo nn ll cc ss aa qq qc)) (fun wr=>mD pb wr)
 case atStart=>exact HL
 case round=>
  obtain⟨g,S,kk,oo,nn,ll,cc,ss,aa,qq,qc,hL⟩:=hrel.out
  have HC:Hid (pb < w.heap.size∧w.heap.size < w.heap.size∨pb < w.heap.size∧w.heap.size < BX∧BX < wr.heap.size):=Zh (.inr ⟨hL.dq.lt,hL.bb,blk_lt hL.row⟩)
  have HC:Hid (pb < w.heap.size∧w.heap.size < BX∧BX < wr.heap.size):=Zh (by have:=HC.out;omega)
  have HQ:=Zh hL.dq
  have HR:=Zh hL.z
  have HX:=Zh hL.row
  have HVx:=Zh hL.ok
  have HGf:Hid (g≤f):=Zh hL.gf
  have hng:(S.bind fun x ts=>pLo en g (rank - 1) nest x ts)≠.er (0,0) 0:=by rw[← hL.eq];exact HNe.out
  have HE:Hid (G=S.bind fun x ts=>pLo en g (rank - 1) nest x ts):=Zh hL.eq
  have hjn:=fun U=>djoins_any U rank HRk.out.1 HRk.out.2 (pkS S)
  clear hrel HL hL
  by_cases hj:(joD rank (pkS S)).1=0
  ·have hz:joD rank (pkS S)=(0,0):=by
    have h:=joD_zero hj
    unfold joD
    rw[h]
    rfl
   have HGS:Hid (G=S):=Zh (by
    rw[HE.out]
    have hd:=HQ.out.ds
    cases S with
    | er p e=>rfl
    | ok x ts=>
     rw[PR.bind_ok]
     have h2:jointO (rank - 1) (nxtT ts)=none:=by
      have h3:=joD_zero hj
      obtain⟨_,k,_,rfl,_⟩:=hd
      rw[← jo_pk (DS.drop_ok hL0 k)]
      exact h3
     exact pLo_none h2 hng)
   have HJn:Hid (∀U,Calls Tryz.prog 94 #[Zi (rank:Int),.string (Go.Proofs.YtlfooogmoigpfaaGreatDoor.S (pkS S))] U fun e w'=>e=.returned (.tuple #[Zi 0,Zi 0])∧w'=U):=Zh fun U=>by have h:=hjn U;rw[hz] at h;exact h
   clear hjn hz hj hng HE
   obtain⟨⟨pl,pc⟩,hp,hsp⟩:=dspot_any wr pb al L en nest S HQ.out.ds
   go_wp2_with fail
   refine (show Calls Tryz.prog 62 #[Zp pb] wr (fun e w2=>e=.returned (.agg #[Zi (pl:Int),Zi (pc:Int)])∧Below wr.heap.size wr w2) from hsp).mono ?_
   rintro e u21 ⟨rfl,hb⟩
   replace HR:=Zh (HR.out.kept hb)
   replace HX:=Zh (HX.out.kept hb)
   replace HVx:=Zh (HVx.out.bel okE_f hb)
   replace HQ:=Zh (HQ.out.bel hb)
   replace HC:Hid ((pb < w.heap.size∧w.heap.size+1≤BX)∧BX+1≤u21.heap.size):=Zh (by have h1:=HC.out;have h2:=hb.size;omega)
   clear hb
   clear hsp
   obtain⟨u22,hu22⟩:=nm (u21.alloc (.cells #[Zi (pl:Int),Zi (pc:Int)] 43))
   obtain⟨BA,hBA⟩:=nm u21.heap.size
   have hb:Below u21.heap.size u21 u22:=by rw[hu22];exact bel_al _ _
   have HA:Hid (RowP u22 BA (Zi (pl:Int)) (Zi (pc:Int))):=Zh (by rw[hu22,hBA];exact heap_alloc_new _ _ rfl)
   have hc0:=HC.out
   replace HR:=Zh (HR.out.kept hb)
   replace HX:=Zh (HX.out.kept hb)
   replace HVx:=Zh (HVx.out.bel okE_f hb)
   replace HQ:=Zh (HQ.out.bel hb)
   replace HC:=Zh (cA HC.out hBA (blk_lt HA.out))
   clear hb hc0
   go_upto_region 12 with fail
   rw[← hu22,← hBA]
   clear hu22 hBA
   go_wp2_with fail
   refine (show Calls Tryz.prog 56 #[Zp pb] u22 (fun e w2=>e=.returned (.string (Go.Proofs.YtlfooogmoigpfaaGreatDoor.S (pkS S)))∧Below u22.heap.size u22 w2) from peek_any u22 pb al L en nest S HQ.out.ds).mono ?_
   rintro e u23 ⟨rfl,hb⟩
   replace HR:=Zh (HR.out.kept hb)
   replace HX:=Zh (HX.out.kept hb)
   replace HA:=Zh (HA.out.kept hb)
   replace HVx:=Zh (HVx.out.bel okE_f hb)
   replace HQ:=Zh (HQ.out.bel hb)
   replace HC:=Zh (cU HC.out hb.size)
   clear hb
   have HJ2:=Zh (HJn.out u23)
   clear HJn
   go_wp2_with fail
   refine HJ2.out.mono ?_
   clear HJ2
   rintro e w9 ⟨rfl,hw9⟩
   rw[hw9]
   clear hw9 w9
   clear hp
   have hG:=HGS.out
   have hc:=HC.out
   obtain⟨⟨x0,x1,x2,x3,x4,x5,x6⟩,_⟩:=HX.out.cells
   clear HGS
   subst hG
   have HF:=Zh (dres7 (P':=New noB w.heap.size) HQ.out (by omega) HR.out ⟨_,_,_,_,_,_,_,_,_,rfl⟩ okE_f (HVx.out.keep (P':=fun k=>w.heap.size < k) okE_f (fun k hk=>hk.1) (fun _ _ _=>rfl)) (fun k (hk:w.heap.size < k)=>⟨.inr (by omega),by omega⟩))
   obtain⟨_,f0,f1,f2,f3,f4,f5,f6⟩:=HR.out.cells
   clear HQ HR hc HC HX HVx HA HGf HNe HXs HRk
   go_wp2_with fail
   obtain⟨⟨d0,d1,d2,d3,d4,d5,d6⟩,_⟩:=HF.out.1.cells
   exact bodyPost_ret (v:=.agg #[Zi kk,Zi oo,Zi nn,.string ss,.slice aa qq qc,Zi ll,Zi cc]) (by simp[results,Tryz.results57,go_sem,d0,d1,d2,d3,d4,d5,d6]) rfl HF.out.2
  ·obtain⟨x0,ts0,rfl,hts⟩:∃x0 ts0,S=.ok x0 ts0∧ts0≠[]:=by
    cases S with
    | er p e=>exact (hj (by rw[show pkS (PR.er p e:PR Ex)=[] from rfl];unfold joD;rw[jo_nil];rfl)).elim
    | ok x ts=>
     refine⟨x,ts,rfl,?_⟩
     rintro rfl
     exact hj (by rw[show pkS (PR.ok x []:PR Ex)=[] from rfl];unfold joD;rw[jo_nil];rfl)
   obtain⟨⟨jk,jo⟩,hjo⟩:∃p,p=joD rank (pkS (PR.ok x0 ts0)):=⟨_,rfl⟩
   rw[← hjo] at hj hjn
   have hjs:jointO (rank - 1) (nxtT ts0)=some (jk,jo):=by
    obtain⟨_,k,_,rfl,_⟩:=HQ.out.ds
    rw[← jo_pk (DS.drop_ok hL0 k)]
    have h:(jk,jo)=(jointO (rank - 1) (pkT (L.drop k))).getD (0,0):=hjo
    cases hq:jointO (rank - 1) (pkT (L.drop k)) with
    | none=>rw[hq] at h;cases h;exact absurd rfl hj
    | some p=>rw[hq] at h;rw[h];rfl
   rw[PR.bind_ok] at hng
   obtain⟨g',rfl,hpl⟩:=pLo_some hjs hng
   rw[show rank - 1+1=rank by have:=HRk.out;omega] at hpl
   have hE:=HE.out
   rw[PR.bind_ok,hpl] at hE
   have hjz:((jk:Int) == 0)=false:=by simp;exact hj
   have HJn:Hid (∀U,Calls Tryz.prog 94 #[Zi (rank:Int),.string (Go.Proofs.YtlfooogmoigpfaaGreatDoor.S (pkS (PR.ok x0 ts0)))] U fun e w'=>e=.returned (.tuple #[Zi (jk:Int),Zi (jo:Int)])∧w'=U):=Zh hjn
   have HM:Hid (mD pb wr=ts0.length+1):=Zh (mD_ok HQ.out.ds)
   have hpj:pJo en g' rank nest ts0.tail≠.er (0,0) 0:=fun h=>HNe.out (by rw[hE,h];rfl)
   have HSr:=Zh ((shr_all en g').2.1 rank nest ts0.tail ts0.tail.length (Nat.le_refl _))
   obtain⟨s2,hs2⟩:∃z:PR Ex,z=pJo en g' rank nest ts0.tail:=⟨_,rfl⟩
   rw[← hs2] at hE hpj HSr
   have HE2:=Zh hE
   clear hE hpl hjs hjo hj hjn hng HE
   obtain⟨⟨pl,pc⟩,hp,hsp⟩:=dspot_any wr pb al L en nest (PR.ok x0 ts0) HQ.out.ds
   go_wp2_with fail
   refine (show Calls Tryz.prog 62 #[Zp pb] wr (fun e w2=>e=.returned (.agg #[Zi (pl:Int),Zi (pc:Int)])∧Below wr.heap.size wr w2) from hsp).mono ?_
   rintro e u41 ⟨rfl,hb⟩
   replace HR:=Zh (HR.out.kept hb)
   replace HX:=Zh (HX.out.kept hb)
   replace HVx:=Zh (HVx.out.bel okE_f hb)
   replace HQ:=Zh (HQ.out.bel hb)
   replace HC:Hid ((pb < w.heap.size∧w.heap.size+1≤BX)∧BX+1≤u41.heap.size):=Zh (by have h1:=HC.out;have h2:=hb.size;omega)
   clear hb
   clear hsp
   obtain⟨u42,hu42⟩:=nm (u41.alloc (.cells #[Zi (pl:Int),Zi (pc:Int)] 43))
   obtain⟨BA,hBA⟩:=nm u41.heap.size
   have hb:Below u41.heap.size u41 u42:=by rw[hu42];exact bel_al _ _
   have HA:Hid (RowP u42 BA (Zi (pl:Int)) (Zi (pc:Int))):=Zh (by rw[hu42,hBA];exact heap_alloc_new _ _ rfl)
   have hc0:=HC.out
   replace HR:=Zh (HR.out.kept hb)
   replace HX:=Zh (HX.out.kept hb)
   replace HVx:=Zh (HVx.out.bel okE_f hb)
   replace HQ:=Zh (HQ.out.bel hb)
   replace HC:=Zh (cA HC.out hBA (blk_lt HA.out))
   clear hb hc0
   go_upto_region 12 with fail
   rw[← hu42,← hBA]
   clear hu42 hBA
   go_wp2_with fail
   refine (show Calls Tryz.prog 56 #[Zp pb] u42 (fun e w2=>e=.returned (.string (Go.Proofs.YtlfooogmoigpfaaGreatDoor.S (pkS (PR.ok x0 ts0))))∧Below u42.heap.size u42 w2) from peek_any u42 pb al L en nest (PR.ok x0 ts0) HQ.out.ds).mono ?_
   rintro e u43 ⟨rfl,hb⟩
   replace HR:=Zh (HR.out.kept hb)
   replace HX:=Zh (HX.out.kept hb)
   replace HA:=Zh (HA.out.kept hb)
   replace HVx:=Zh (HVx.out.bel okE_f hb)
   replace HQ:=Zh (HQ.out.bel hb)
   replace HC:=Zh (cU HC.out hb.size)
   clear hb
   have HJ2:=Zh (HJn.out u43)
   clear HJn
   go_wp2_with fail
   refine HJ2.out.mono ?_
   clear HJ2
   rintro e w9 ⟨rfl,hw9⟩
   rw[hw9]
   clear hw9 w9
   have HP:Hid ((pl,pc)=nxtP en ts0):=Zh (hp x0 ts0 rfl)
   clear hp
   obtain⟨k,c1,f1,hk,hds⟩:=HQ.out.ds.adv hlen0 hts
   obtain⟨k1,hk1⟩:∃k1:Int,k1=((k+1:Nat):Int):=⟨_,rfl⟩
   have hw1:IntKind.i64.wrap ((k:Int)+1)=k1:=by rw[IntKind.wrap_i64];omega
   obtain⟨u44,hu44⟩:=nm (u43.setCell ⟨pb,1,none⟩ (Zi k1))
   have ht:T1 pb u43 u44:=by rw[hu44];exact T1.set
   have hds2:DS u44 pb al L en nest (PR.ok () ts0.tail:PR Unit):=by rw[hu44,hk1];exact hds _ _
   clear hds
   replace HR:=Zh (HR.out.t1 ht (by have:=HC.out;omega))
   replace HX:=Zh (HX.out.t1 ht (by have:=HC.out;omega))
   replace HA:=Zh (HA.out.t1 ht (by have:=HC.out;omega))
   replace HVx:=Zh (HVx.out.t1 okE_f ht (fun k (hk:w.heap.size < k∧k≠BX)=>by have:=HC.out;omega))
   replace HQ:=Zh (HQ.out.call ht hds2)
   replace HC:=Zh (cU HC.out ht.size)
   clear ht hds2 hk hk1
   go_upto_region 16 with fail
   rw[← hu44]
   clear hu44 c1 f1 hw1 hjz
   obtain⟨n4,hn4⟩:=nm u44.heap.size
   replace HC:=Zh (cM HC.out hn4)
   go_wp2_with fail
   refine (show Calls Tryz.prog 57 #[Zp pb,Zi ((rank:Int)+1)] u44 (DP A7 u44 pb al L en nest s2 (okE (New noB u44.heap.size))) from by rw[hs2];exact HXs.out g' (by have:=HGf.out;omega) u44 (.ok () ts0.tail) HQ.out.ds (by rw[PR.bind_ok,← hs2];exact hpj)).mono ?_
   rintro e u45 ⟨_,rfl,⟨yk,yo,yn,yl,ym,ys,ya,yq,yc,rfl⟩,hds,ht,hv⟩
   replace HR:=Zh (HR.out.t1 ht (by have:=HC.out;omega))
   replace HX:=Zh (HX.out.t1 ht (by have:=HC.out;omega))
   replace HA:=Zh (HA.out.t1 ht (by have:=HC.out;omega))
   replace HVx:=Zh (HVx.out.t1 okE_f ht (fun k (hk:w.heap.size < k∧k≠BX)=>by have:=HC.out;omega))
   replace HQ:=Zh (HQ.out.call ht hds)
   replace HC:=Zh (cU HC.out ht.size)
   clear ht hds
   obtain⟨u46,hu46⟩:=nm (u45.alloc (.cells #[Zi yk,Zi yo,Zi yn,.string ys,.slice ya yq yc,Zi yl,Zi ym] 66))
   obtain⟨BY,hBY⟩:=nm u45.heap.size
   have hb:Below u45.heap.size u45 u46:=by rw[hu46];exact bel_al _ _
   have HY:Hid (Row7 u46 BY (Zi yk) (Zi yo) (Zi yn) (.string ys) (.slice ya yq yc) (Zi yl) (Zi ym)):=Zh (by rw[hu46,hBY];exact heap_alloc_new _ _ rfl)
   have HVy:Hid (OV okE (fun k=>n4≤k∧k < BY) s2 (.agg #[Zi yk,Zi yo,Zi yn,.string ys,.slice ya yq yc,Zi yl,Zi ym]) u46):=Zh (OV.res hv okE_f okE_lt' hb (fun k h1 h2=>⟨by omega,by omega⟩))
   clear hv
   have hc0:=HC.out
   replace HR:=Zh (HR.out.kept hb)
   replace HX:=Zh (HX.out.kept hb)
   replace HA:=Zh (HA.out.kept hb)
   replace HVx:=Zh (HVx.out.bel okE_f hb)
   replace HQ:=Zh (HQ.out.bel hb)
   replace HC:=Zh (cA HC.out hBY (blk_lt HY.out))
   clear hb hc0
   go_upto_region 17 with fail
   rw[← hu46,← hBY]
   clear hu46 hBY
   clear hn4
   obtain⟨v9,hv9⟩:=nm (u46.alloc (.cells #[Zi kk,Zi oo,Zi nn,.string ss,.slice aa qq qc,Zi ll,Zi cc,Zi yk,Zi yo,Zi yn,.string ys,.slice ya yq yc,Zi yl,Zi ym] 66))
   have hb:Below u46.heap.size u46 v9:=by rw[hv9];exact bel_al _ _
   have hc:=HC.out
   obtain⟨s3,hs3⟩:∃z:PR Ex,z=s2.bind fun y r=>.ok (Ex.mk jk jo 0 [] [x0,y] (pl,pc)) r:=⟨_,rfl⟩
   have hv:OV okE (fun k=>w.heap.size < k∧k≠BX) s3 (.agg #[Zi (jk:Int),Zi (jo:Int),Zi 0,Ze,.slice (some ⟨u46.heap.size,0,none⟩) 2 2,Zi (pl:Int),Zi (pc:Int)]) v9:=fun X r e=>by
    rw[hs3] at e
    obtain⟨y,ry,ey,e2⟩:=PR.bind_inv e
    simp only[PR.ok.injEq] at e2
    obtain⟨rfl,_⟩:=e2
    refine⟨_,rfl,?_⟩
    rw[hv9]
    exact ArC_new (okE_cons (okE_mono (HVx.out x0 ts0 rfl) (fun k hk _=>hk)) (okE_cons (okE_mono (HVy.out y ry ey) (fun k hk _=>by obtain⟨h1,h2⟩:=hk;omega)) .nil)) (fun k hk=>hk) (by omega)
   have hq9:DQ w v9 pb al L en nest s3:=(HQ.out.call (T1.bel (Below.refl _ _)) (by rw[hs3];exact HQ.out.ds.like (like_unit s2 _))).bel hb
   obtain⟨W13,hW13⟩:=nm ((((((((v9.setCell ⟨BX,0,none⟩ (Zi (jk:Int))).setCell ⟨BX,1,none⟩ (Zi (jo:Int))).setCell ⟨BX,2,none⟩ (Zi 0)).setCell ⟨BX,3,none⟩ (Ze)).setCell ⟨BX,4,none⟩ (.slice (some ⟨u46.heap.size,0,none⟩) 2 2)).setCell ⟨BX,5,none⟩ (Zi (pl:Int))).setCell ⟨BX,6,none⟩ (Zi (pc:Int))))
   have hput:W13=put7 v9 BX (Zi (jk:Int)) (Zi (jo:Int)) (Zi 0) (Ze) (.slice (some ⟨u46.heap.size,0,none⟩) 2 2) (Zi (pl:Int)) (Zi (pc:Int)):=hW13
   have hbp:Below w.heap.size v9 W13:=by rw[hput];exact put7_below (Below.refl _ _) (by omega) _ _ _ _ _ _ _
   have HQ13:=Zh (hq9.low hbp)
   have HR13:Hid (z7 W13 w.heap.size):=Zh (by rw[hput];exact (put7_other (by omega) _ _ _ _ _ _ _).trans (HR.out.kept hb))
   have hx9:=HX.out.kept hb
   have HX13:Hid (Row7 W13 BX (Zi (jk:Int)) (Zi (jo:Int)) (Zi 0) (Ze) (.slice (some ⟨u46.heap.size,0,none⟩) 2 2) (Zi (pl:Int)) (Zi (pc:Int))):=Zh (by rw[hput];exact hx9.put _ _ _ _ _ _ _)
   have HV13:Hid (OV okE (fun k=>w.heap.size < k∧k≠BX) s3 (.agg #[Zi (jk:Int),Zi (jo:Int),Zi 0,Ze,.slice (some ⟨u46.heap.size,0,none⟩) 2 2,Zi (pl:Int),Zi (pc:Int)]) W13):=Zh (by rw[hput];exact hv.low okE_f (fun k hk _=>put7_other hk.2 _ _ _ _ _ _ _))
   have HE3:Hid (G=s3.bind fun X r=>if rank=7 then .ok X r else pLo en g' (rank - 1) nest X r):=Zh (by
    rw[HE2.out,hs3]
    have hpp:=HP.out
    cases s2 with
    | er p e=>rfl
    | ok y r=>
     rw[PR.bind_ok,PR.bind_ok,PR.bind_ok,hpp]
     by_cases h7:rank=7
     ·rw[if_pos h7,if_pos (by omega)]
     ·rw[if_neg h7,if_neg (by have:=HRk.out;omega)])
   have HMe:Hid (mD pb W13 < mD pb wr):=Zh (by
    rw[HM.out]
    cases hk:s3 with
    | er p e=>
     have hd:=HQ13.out.ds
     rw[hk] at hd
     rw[mD_er hd]
     omega
    | ok X r=>
     have hd:=HQ13.out.ds
     rw[hk] at hd
     rw[mD_ok hd]
     rw[hs3] at hk
     obtain⟨y,ry,ey,e2⟩:=PR.bind_inv hk
     simp only[PR.ok.injEq] at e2
     obtain⟨_,rfl⟩:=e2
     have h1:=HSr.out.ok ey
     have h2:ts0.tail.length+1=ts0.length:=by
      cases ts0 with
      | nil=>exact absurd rfl hts
      | cons t r=>rfl
     omega)
   have HBx:Hid (w.heap.size < BX):=Zh (by omega)
   obtain⟨⟨x0,x1,x2,x3,x4,x5,x6⟩,_⟩:=HX.out.cells
   obtain⟨⟨y0,y1,y2,y3,y4,y5,y6⟩,_⟩:=HY.out.cells
   obtain⟨a0,a1⟩:=(HA.out.kept hb).cells.1
   obtain⟨_,f0,f1,f2,f3,f4,f5,f6⟩:=hx9.cells
   clear hput hv hq9 hbp hx9 hb hc HC HQ HR HX HVx HVy HA HY HE2 HP HM HSr hs2 hs3 hpj hts
   subst hv9
   go_upto_region 18 with fail
   rw[← hW13]
   clear hW13 x0 x1 x2 x3 x4 x5 x6 y0 y1 y2 y3 y4 y5 y6 a0 a1 f0 f1 f2 f3 f4 f5 f6
   by_cases h7:rank=7
   ·have hr7:((rank:Int) == 7)=true:=by simp;omega
    have hG:G=s3:=by
     rw[HE3.out]
     cases s3 with
     | er p e=>rfl
     | ok X r=>rw[PR.bind_ok,if_pos h7]
    subst hG
    have hbx:=HBx.out
    have hqd:=HQ13.out
    have HF:=Zh (dres7 (P':=New noB w.heap.size) hqd (Nat.le_refl _) HR13.out ⟨_,_,_,_,_,_,_,_,_,rfl⟩ okE_f (HV13.out.keep (P':=fun k=>w.heap.size < k) okE_f (fun k hk=>hk.1) (fun _ _ _=>rfl)) (fun k (hk:w.heap.size < k)=>⟨.inr (by omega),by omega⟩))
    obtain⟨_,f0,f1,f2,f3,f4,f5,f6⟩:=HR13.out.cells
    obtain⟨⟨x0,x1,x2,x3,x4,x5,x6⟩,_⟩:=HX13.out.cells
    clear hbx hqd HQ13 HR13 HX13 HV13 HE3 HMe HBx HNe HXs HGf HRk h7
    go_wp2_with fail
    obtain⟨⟨d0,d1,d2,d3,d4,d5,d6⟩,_⟩:=HF.out.1.cells
    exact bodyPost_ret (v:=.agg #[Zi (jk:Int),Zi (jo:Int),Zi 0,Ze,.slice (some ⟨u46.heap.size,0,none⟩) 2 2,Zi (pl:Int),Zi (pc:Int)]) (by simp[results,Tryz.results57,go_sem,d0,d1,d2,d3,d4,d5,d6]) rfl HF.out.2
   ·have hr7:((rank:Int) == 7)=false:=by simp;omega
    have HL:Hid (∃g S kk oo nn ll cc ss aa qq qc,DLx w W13 pb al L en nest rank f G g S BX kk oo nn ll cc ss aa qq qc):=Zh ⟨g',s3,_,_,_,_,_,_,_,_,_,by have:=HGf.out;omega,HQ13.out,HR13.out,HX13.out,HV13.out,by
     rw[HE3.out]
     simp only[if_neg h7],HBx.out⟩
    clear h7 HQ13 HR13 HX13 HV13 HE3 HBx HGf
    go_wp2_with fail
    go_roundw
    case rel=>exact HL
    case measure=>exact HMe.out
theorem pPr_name (en:Nat × Nat) (f nest:Nat) (ts:List Tok) (h3:nxtK ts≠3) (n0:¬nxtT ts=[40]) (n1:¬nxtT ts=wGet) (n2:¬nxtT ts=wHas) (n3:¬nxtT ts=wMin) (n4:¬nxtT ts=wMax):pPr en (f+1) nest ts=(pName en ts).bind fun n r=>.ok (.mk 2 0 0 n.1 [] (nxtP en ts)) r:=by
 simp only[pPr]
 rw[if_neg h3]
 unfold pName
 by_cases h1:nxtK ts=1
 ·rw[if_pos h1,if_pos h1]
  rfl
 ·rw[if_neg h1,if_neg h1,if_neg n0,if_neg n1,if_neg n2]
  unfold pMust
  rw[if_neg n4,if_neg n3]
  rfl
theorem kw_k {ts:List Tok} (h:TksOk ts) {s:List UInt8} (hs:s∈kwL) (hn:s≠[]) (he:nxtT ts=s):nxtK ts≠3∧nxtK ts≠1:=by
 cases ts with
 | nil=>exact absurd he.symm hn
 | cons t r=>
  obtain⟨h1,h2⟩:=h t (List.mem_cons_self ..)
  exact⟨fun hk=>h2 (.inr hk) s hs he,fun hk=>h2 (.inl hk) s hs he⟩
theorem pPr_kw {en:Nat × Nat} {f nest:Nat} {ts:List Tok} (h3:nxtK ts≠3) (h1:nxtK ts≠1):pPr en (f+1) nest ts =
  if nxtT ts=[40] then pBr en nest [40] [41] ts fun ns r=>pWh en f ns r
  else if nxtT ts=wGet then
   (if nxtT ts.tail=[91] then (pBr en nest [91] [93] ts.tail fun ns r=>pWh en f ns r).bind fun x r=>.ok (.mk 5 0 0 [] [x] (nxtP en ts)) r
    else (pBr en nest [40] [41] ts.tail fun _ r=>pName en r).bind fun n r=>.ok (.mk 3 0 0 n.1 [] (nxtP en ts)) r)
  else if nxtT ts=wHas then (pBr en nest [40] [41] ts.tail fun _ r=>pName en r).bind fun n r=>.ok (.mk 4 0 0 n.1 [] (nxtP en ts)) r
  else (pMust en (if nxtT ts=wMax then wMax else wMin) ts).bind fun _ r=>(pTw en f nest r).bind fun xy r5=>.ok (.mk 7 (if nxtT ts=wMax then 29 else 28) 0 [] [xy.1,xy.2] (nxtP en ts)) r5:=by
 simp only[pPr]
 rw[if_neg h3,if_neg h1]
 rfl
theorem DS.toks {α:Type} {W:World} {pb nest:Nat} {al:Value} {L:List Tok} {en:Nat × Nat} {y:α} {ts:List Tok} (h:DS W pb al L en nest (PR.ok y ts)) (hL:TksOk L):TksOk ts:=by
 obtain⟨_,k,_,rfl,_⟩:=h
 exact DS.drop_ok hL k
theorem dprimary_any {pb:Nat} {al:Value} {L:List Tok} {en:Nat × Nat} {f:Nat} (hL:TksOk L) (hlen:L.length≤70000) (hW:DCw pb al L en f):DCp pb al L en (f+1):=by
 intro w s nest hds hne
 cases s with
 | er p x=>exact dprim_er hlen w nest p x hds (fun h=>by cases h) (fun h=>by cases h) (fun h=>by cases h) (fun h=>by cases h) (fun h=>by cases h)
 | ok u ts=>
  rw[PR.bind_ok] at hne ⊢
  have ht:=hds.toks hL
  by_cases c0:nxtT ts=[40]
  ·obtain⟨h3,h1⟩:=kw_k ht (by decide) (by decide) c0
   rw[pPr_kw h3 h1,if_pos c0] at hne ⊢
   exact dprim_par hL hlen hW w ts nest hds c0 hne
  by_cases c1:nxtT ts=wGet
  ·obtain⟨h3,h1⟩:=kw_k ht (by decide) (by decide) c1
   rw[pPr_kw h3 h1,if_neg c0,if_pos c1] at hne ⊢
   by_cases c2:nxtT ts.tail=[91]
   ·rw[if_pos c2] at hne ⊢
    exact dprim_getx hL hlen hW w ts nest hds c1 c2 hne
   ·rw[if_neg c2]
    exact dprim_get hL hlen w ts nest hds c1 c2
  by_cases c2:nxtT ts=wHas
  ·obtain⟨h3,h1⟩:=kw_k ht (by decide) (by decide) c2
   rw[pPr_kw h3 h1,if_neg c0,if_neg c1,if_pos c2]
   exact dprim_has hL hlen w ts nest hds c2
  by_cases c3:nxtT ts=wMax
  ·obtain⟨h3,h1⟩:=kw_k ht (by decide) (by decide) c3
   have e:pPr en (f+1) nest ts=(pTw en f nest ts.tail).bind fun xy r5=>.ok (.mk 7 29 0 [] [xy.1,xy.2] (nxtP en ts)) r5:=by
    rw[pPr_kw h3 h1,if_neg c0,if_neg c1,if_neg c2,if_pos c3,if_pos c3]
    unfold pMust
    rw[if_pos c3]
    rfl
   rw[e] at hne ⊢
   exact dprim_max hL hlen hW w ts nest hds c3 hne
  by_cases c4:nxtT ts=wMin
  ·obtain⟨h3,h1⟩:=kw_k ht (by decide) (by decide) c4
   have e:pPr en (f+1) nest ts=(pTw en f nest ts.tail).bind fun xy r5=>.ok (.mk 7 28 0 [] [xy.1,xy.2] (nxtP en ts)) r5:=by
    rw[pPr_kw h3 h1,if_neg c0,if_neg c1,if_neg c2,if_neg c3,if_neg c3]
    unfold pMust
    rw[if_pos c4]
    rfl
   rw[e] at hne ⊢
   exact dprim_min hL hlen hW w ts nest hds c4 hne
  have pn:∀t∈kwL,¬nxtT ts=t→¬pkS (PR.ok u ts)=t:=fun t hk hn=>pk_ne ht hk (kw_ne t hk) hn
  have p0:=pn [40] (by decide) c0
  have p1:=pn wGet (by decide) c1
  have p2:=pn wHas (by decide) c2
  have p3:=pn wMin (by decide) c4
  have p4:=pn wMax (by decide) c3
  cases ts with
  | nil=>
   rw[pPr_name en f nest [] (by decide) c0 c1 c2 c4 c3]
   exact dprim_end hlen w nest hds p0 p1 p2 p3 p4
  | cons t r=>
   by_cases h3:t.1=3
   ·have e:pPr en (f+1) nest (t :: r)=.ok (.mk 1 0 t.2.2.1 [] [] (nxtP en (t :: r))) r:=by
     simp only[pPr]
     rw[if_pos (show nxtK (t :: r)=3 from h3)]
     rfl
    rw[e]
    exact dprim_num hlen w nest t r h3 hds p0 p1 p2 p3 p4
   ·rw[pPr_name en f nest (t :: r) h3 c0 c1 c2 c4 c3]
    exact dprim_tok hlen w nest t r h3 hds p0 p1 p2 p3 p4
theorem dexpr_any {pb:Nat} {al:Value} {L:List Tok} {en:Nat × Nat} {f:Nat} (hL:TksOk L) (hlen:L.length≤70000) (hX:∀g,g < f→DCx pb al L en g) (hC:DCc pb al L en f) (hU:∀g,g < f→DCu pb al L en g):DCx pb al L en f:=by
 intro w s nest rank h1 h11 hds hne
 cases s with
 | er p x=>exact dexpr_er w nest (rank:Int) p x hds _ rfl
 | ok u ts=>
  rw[PR.bind_ok] at hne ⊢
  by_cases r1:rank=1
  ·subst r1
   have e:dpE en f 1 nest ts=pWh en f nest ts:=rfl
   rw[e] at hne ⊢
   exact dexpr_one w ts nest hds _ (fun U hU=>hC U ts nest hU hne)
  ·have e:dpE en f rank nest ts=pJo en f (rank - 1) nest ts:=by unfold dpE;rw[if_neg r1]
   rw[e] at hne ⊢
   by_cases r11:rank=11
   ·subst r11
    cases f with
    | zero=>exact absurd (by simp only[pJo]) hne
    | succ f=>
     have e2:pJo en (f+1) (11 - 1) nest ts=pUn en f nest ts:=pJo_10 en f nest ts
     rw[e2] at hne ⊢
     exact dexpr_ele w ts nest hds _ (fun U hD=>hU f (by omega) U (.ok () ts) nest hD hne)
   ·exact dexpr_lo hL hlen hX w ts nest rank (by omega) (by omega) hds hne
theorem dall {pb:Nat} {al:Value} {L:List Tok} {en:Nat × Nat} (hL:TksOk L) (hlen:L.length≤70000):∀f,(∀g,g≤f→DCx pb al L en g)∧(∀g,g≤f→DCu pb al L en g)∧(∀g,g≤f→DCp pb al L en g)
 | 0=>by
  have hx:DCx pb al L en 0:=fun U s nest rank h1 h11 hds hne=>by
   cases s with
   | er p x=>exact dexpr_er U nest (rank:Int) p x hds _ rfl
   | ok u ts=>
    refine absurd ?_ hne
    rw[PR.bind_ok]
    unfold dpE
    split
    ·simp only[pWh]
    ·simp only[pJo]
  have hp:DCp pb al L en 0:=fun U s nest hds hne=>by
   cases s with
   | er p x=>exact dprim_er hlen U nest p x hds (fun h=>by cases h) (fun h=>by cases h) (fun h=>by cases h) (fun h=>by cases h) (fun h=>by cases h)
   | ok u ts=>exact absurd (by rw[PR.bind_ok];simp only[pPr]) hne
  have hu:DCu pb al L en 0:=fun U s nest hds hne=>by
   cases s with
   | er p x=>exact dunaryEls_any (f:=0) hp U (.er p x) nest hds (fun h=>by cases h) (fun h=>by cases h) (fun h=>hds.er_ne h)
   | ok u ts=>exact absurd (by rw[PR.bind_ok];simp only[pUn]) hne
  have hz:∀Q:Nat→Prop,Q 0→∀g,g≤0→Q g:=fun Q h g hg=>by rw[Nat.le_zero.1 hg];exact h
  exact⟨hz _ hx,hz _ hu,hz _ hp⟩
 | f+1=>by
  obtain⟨iX,iU,iP⟩:=dall hL hlen f
  have hc:DCc pb al L en (f+1):=dchoice_any hL hlen (iX f (Nat.le_refl _))
  have hx:DCx pb al L en (f+1):=dexpr_any hL hlen (fun g hg=>iX g (by omega)) hc (fun g hg=>iU g (by omega))
  have hu:DCu pb al L en (f+1):=dunary_any hL hlen (iU f (Nat.le_refl _)) (iP f (Nat.le_refl _))
  have hp:DCp pb al L en (f+1):=dprimary_any hL hlen (iX f (Nat.le_refl _)).w
  have key:∀(Q:Nat→Prop),(∀g,g≤f→Q g)→Q (f+1)→∀g,g≤f+1→Q g:=fun Q h1 h2 g hg=>by
   by_cases e:g=f+1
   ·subst e;exact h2
   ·exact h1 g (by omega)
  exact⟨key _ iX hx,key _ iU hu,key _ iP hp⟩
theorem dwhole_any {pb:Nat} {al:Value} {L:List Tok} {en:Nat × Nat} (hL:TksOk L) (hlen:L.length≤70000) (f:Nat):DCw pb al L en f:=((dall hL hlen f).1 f (Nat.le_refl _)).w
end Go.Proofs.YtlfooogmoigpfaaGreatDoor
