import Derived.Test.YtlfooogmoigpfaaGreatDoorQao
import Derived.Test.YtlfooogmoigpfaaGreatDoorQaa
set_option maxRecDepth 100000
set_option maxHeartbeats 8000000
namespace Go.Proofs.YtlfooogmoigpfaaGreatDoor
open Go.RowKit Go.Sort Go.Shelf
theorem dprim_par {pb:Nat} {al:Value} {L:List Tok} {en:Nat × Nat} {f:Nat} (hL:TksOk L) (hlen:L.length≤70000) (hW:DCw pb al L en f) (w:World) (ts:List Tok) (nest:Nat) (hds:DS w pb al L en nest (PR.ok () ts:PR Unit)) (hnx:nxtT ts=[40]) (hne:((pBr en nest [40] [41] ts fun ns r=>pWh en f ns r):PR Ex)≠.er (0,0) 0):Calls Tryz.prog 93 #[Zp pb] w (DP A7 w pb al L en nest (pBr en nest [40] [41] ts fun ns r=>pWh en f ns r) (okE (New noB w.heap.size))):=by
 have hn:nest≤200:=hds.1
 obtain⟨s1,hs1⟩:=nm (pOp en nest [40] ts:PR Unit)
 obtain⟨s2,hs2⟩:=nm (s1.bind fun _ t=>pWh en f (nest+1) t:PR Ex)
 obtain⟨s3,hs3⟩:=nm (s2.bind fun _ t=>pMust en [41] t:PR Unit)
 obtain⟨G,hG⟩:=nm ((pBr en nest [40] [41] ts fun ns r=>pWh en f ns r):PR Ex)
 rw[← hG] at hne ⊢
 have key:Like s3 G∧(∀X r,G=.ok X r→∃x rx,s2=.ok x rx∧X=x)∧(∀p e,s2=.er p e→G=.er p e):=by
  have h:=like1 (pOp en nest [40] ts) (fun t=>pWh en f (nest+1) t) (fun t=>pMust en [41] t) (fun x=>x)
  have e:G=(pOp en nest [40] ts).bind fun _ t=>(pWh en f (nest+1) t).bind fun x t=>(pMust en [41] t).bind fun _ t=>.ok x t:=by
   rw[hG,pBr_op]
   try simp only[PR.bind_assoc,PR.bind_ok]
  rw[← e,← hs1,← hs2,← hs3] at h
  exact h
 have hne2:s2≠.er (0,0) 0:=fun h=>hne (key.2.2 _ _ h)
 clear hne hG
 have hpe:pkS (PR.ok () ts)=[40]:=pk_of' hds hL (by decide) hnx
 obtain⟨u1,hu1⟩:=nm (w.alloc (.cells #[Zi 0,Zi 0,Zi 0,Ze,Zn,Zi 0,Zi 0] 66))
 have hb0:Below w.heap.size w u1:=by rw[hu1];exact bel_al _ _
 have HQ:=Zh ((DQ.start hds).bel hb0)
 have HR:Hid (Row7 u1 w.heap.size (Zi 0) (Zi 0) (Zi 0) (Ze) (Zn) (Zi 0) (Zi 0)):=Zh (by rw[hu1];exact heap_alloc_new _ _ rfl)
 have HC:=Zh (cS HQ.out.lt (blk_lt HR.out))
 clear hb0
 clear hds
 go_enter Tryz.func93,Tryz.ntmps93
 go_upto_region 1 with fail
 rw[← hu1]
 clear hu1
 obtain⟨⟨pl,pc⟩,hp,hsp⟩:=dspot_any u1 pb al L en nest (PR.ok () ts) HQ.out.ds
 go_wp2_with fail
 refine (show Calls Tryz.prog 62 #[Zp pb] u1 (fun e w2=>e=.returned (.agg #[Zi (pl:Int),Zi (pc:Int)])∧Below u1.heap.size u1 w2) from hsp).mono ?_
 rintro e u2 ⟨rfl,hb⟩
 replace HR:=Zh (HR.out.kept hb)
 replace HQ:=Zh (HQ.out.bel hb)
 replace HC:=Zh (cU HC.out hb.size)
 clear hb
 clear hsp
 obtain⟨u3,hu3⟩:=nm (u2.alloc (.cells #[Zi (pl:Int),Zi (pc:Int)] 43))
 obtain⟨BA,hBA⟩:=nm u2.heap.size
 have hb:Below u2.heap.size u2 u3:=by rw[hu3];exact bel_al _ _
 have HA:Hid (RowP u3 BA (Zi (pl:Int)) (Zi (pc:Int))):=Zh (by rw[hu3,hBA];exact heap_alloc_new _ _ rfl)
 have hc0:=HC.out
 replace HR:=Zh (HR.out.kept hb)
 replace HQ:=Zh (HQ.out.bel hb)
 replace HC:=Zh (cA HC.out hBA (blk_lt HA.out))
 clear hb hc0
 go_upto_region 2 with fail
 rw[← hu3,← hBA]
 clear hu3 hBA
 go_wp2_with fail
 refine (show Calls Tryz.prog 56 #[Zp pb] u3 (fun e w2=>e=.returned (.string ⟨#[40]⟩)∧Below u3.heap.size u3 w2) from by have h:=peek_any u3 pb al L en nest (PR.ok () ts) HQ.out.ds;rw[hpe] at h;exact h).mono ?_
 rintro e u4 ⟨rfl,hb⟩
 replace HR:=Zh (HR.out.kept hb)
 replace HA:=Zh (HA.out.kept hb)
 replace HQ:=Zh (HQ.out.bel hb)
 replace HC:=Zh (cU HC.out hb.size)
 clear hb
 go_wp2_with fail
 refine (show Calls Tryz.prog 58 #[Zp pb,.string ⟨#[40]⟩] u4 (fun e w'=>e=.returned (.tuple #[])∧DS w' pb al L en (nest+1) s1∧T1 pb u4 w') from by rw[hs1];exact dopens_any u4 pb al L en nest (.ok () ts) [40] hL hlen (by omega) (by decide) HQ.out.ds).mono ?_
 rintro e u5 ⟨rfl,hds,ht⟩
 replace HR:=Zh (HR.out.t1 ht (by have:=HC.out;omega))
 replace HA:=Zh (HA.out.t1 ht (by have:=HC.out;omega))
 replace HQ:=Zh (HQ.out.call ht hds)
 replace HC:=Zh (cU HC.out ht.size)
 clear ht hds
 obtain⟨n1,hn1⟩:=nm u5.heap.size
 replace HC:=Zh (cM HC.out hn1)
 go_wp2_with fail
 refine (show Calls Tryz.prog 57 #[Zp pb,Zi 1] u5 (DP A7 u5 pb al L en (nest+1) s2 (okE (New noB u5.heap.size))) from by rw[hs2];exact hW u5 s1 (nest+1) HQ.out.ds (by rw[← hs2];exact hne2)).mono ?_
 rintro e u6 ⟨_,rfl,⟨xk,xo,xn,xl,xm,xs,xa,xq,xc,rfl⟩,hds,ht,hv⟩
 replace HR:=Zh (HR.out.t1 ht (by have:=HC.out;omega))
 replace HA:=Zh (HA.out.t1 ht (by have:=HC.out;omega))
 replace HQ:=Zh (HQ.out.call ht hds)
 replace HC:=Zh (cU HC.out ht.size)
 clear ht hds
 obtain⟨u7,hu7⟩:=nm (u6.alloc (.cells #[Zi xk,Zi xo,Zi xn,.string xs,.slice xa xq xc,Zi xl,Zi xm] 66))
 obtain⟨BX,hBX⟩:=nm u6.heap.size
 have hb:Below u6.heap.size u6 u7:=by rw[hu7];exact bel_al _ _
 have HX:Hid (Row7 u7 BX (Zi xk) (Zi xo) (Zi xn) (.string xs) (.slice xa xq xc) (Zi xl) (Zi xm)):=Zh (by rw[hu7,hBX];exact heap_alloc_new _ _ rfl)
 have HVx:Hid (OV okE (fun k=>n1≤k∧k < BX) s2 (.agg #[Zi xk,Zi xo,Zi xn,.string xs,.slice xa xq xc,Zi xl,Zi xm]) u7):=Zh (OV.res hv okE_f okE_lt' hb (fun k h1 h2=>⟨by omega,by omega⟩))
 clear hv
 have hc0:=HC.out
 replace HR:=Zh (HR.out.kept hb)
 replace HA:=Zh (HA.out.kept hb)
 replace HQ:=Zh (HQ.out.bel hb)
 replace HC:=Zh (cA HC.out hBX (blk_lt HX.out))
 clear hb hc0
 go_upto_region 7 with fail
 rw[← hu7,← hBX]
 clear hu7 hBX
 clear hn1
 go_wp2_with fail
 refine (show Calls Tryz.prog 60 #[Zp pb,.string ⟨#[41]⟩] u7 (fun e w'=>e=.returned (.tuple #[])∧DS w' pb al L en nest s3∧T1 pb u7 w') from by rw[hs3,← toU_bind];exact dcloses_any u7 pb al L en nest (toU s2) [41] hL hlen (by omega) (by decide) HQ.out.ds.toU).mono ?_
 rintro e u8 ⟨rfl,hds,ht⟩
 replace HR:=Zh (HR.out.t1 ht (by have:=HC.out;omega))
 replace HA:=Zh (HA.out.t1 ht (by have:=HC.out;omega))
 replace HX:=Zh (HX.out.t1 ht (by have:=HC.out;omega))
 replace HVx:=Zh (HVx.out.t1 okE_f ht (fun k (hk:n1≤k∧k < BX)=>by have:=HC.out;omega))
 replace HQ:=Zh (HQ.out.call ht hds)
 replace HC:=Zh (cU HC.out ht.size)
 clear ht hds
 have hc:=HC.out
 obtain⟨⟨x0,x1,x2,x3,x4,x5,x6⟩,_⟩:=HX.out.cells
 have HF:=Zh (dres7 (P':=New noB w.heap.size) (HQ.out.call (T1.bel (Below.refl _ _)) (HQ.out.ds.like key.1)) (by omega) HR.out ⟨_,_,_,_,_,_,_,_,_,rfl⟩ okE_f (show OV okE (fun k=>w.heap.size < k) G (.agg #[Zi xk,Zi xo,Zi xn,.string xs,.slice xa xq xc,Zi xl,Zi xm]) _ from fun X r e=>by
   obtain⟨x,rx,e2,hX⟩:=key.2.1 X r e
   rw[hX]
   exact okE_mono (HVx.out x rx e2) (fun k hk _=>by obtain⟨h1,h2⟩:=hk;omega)) (fun k (hk:w.heap.size < k)=>⟨.inr (by omega),by omega⟩))
 obtain⟨_,f0,f1,f2,f3,f4,f5,f6⟩:=HR.out.cells
 clear HQ HR hc HC HX HVx HA hp key hs1 hs2 hs3 hne2 hpe hnx
 go_wp2_with fail
 obtain⟨⟨d0,d1,d2,d3,d4,d5,d6⟩,_⟩:=HF.out.1.cells
 exact bodyPost_ret (v:=.agg #[Zi xk,Zi xo,Zi xn,.string xs,.slice xa xq xc,Zi xl,Zi xm]) (by simp[results,Tryz.results93,go_sem,d0,d1,d2,d3,d4,d5,d6]) rfl HF.out.2
theorem dprim_getx {pb:Nat} {al:Value} {L:List Tok} {en:Nat × Nat} {f:Nat} (hL:TksOk L) (hlen:L.length≤70000) (hW:DCw pb al L en f) (w:World) (ts:List Tok) (nest:Nat) (hds:DS w pb al L en nest (PR.ok () ts:PR Unit)) (hnx:nxtT ts=[103,101,116]) (hnx2:nxtT ts.tail=[91]) (hne:(((pBr en nest [91] [93] ts.tail fun ns r=>pWh en f ns r).bind fun x r=>.ok (.mk 5 0 0 [] [x] (nxtP en ts)) r):PR Ex)≠.er (0,0) 0):Calls Tryz.prog 93 #[Zp pb] w (DP A7 w pb al L en nest ((pBr en nest [91] [93] ts.tail fun ns r=>pWh en f ns r).bind fun x r=>.ok (.mk 5 0 0 [] [x] (nxtP en ts)) r) (okE (New noB w.heap.size))):=by
 have hn:nest≤200:=hds.1
 obtain⟨s1,hs1⟩:=nm (pOp en nest [91] ts.tail:PR Unit)
 obtain⟨s2,hs2⟩:=nm (s1.bind fun _ t=>pWh en f (nest+1) t:PR Ex)
 obtain⟨s3,hs3⟩:=nm (s2.bind fun _ t=>pMust en [93] t:PR Unit)
 obtain⟨G,hG⟩:=nm (((pBr en nest [91] [93] ts.tail fun ns r=>pWh en f ns r).bind fun x r=>.ok (.mk 5 0 0 [] [x] (nxtP en ts)) r):PR Ex)
 rw[← hG] at hne ⊢
 have key:Like s3 G∧(∀X r,G=.ok X r→∃x rx,s2=.ok x rx∧X=(Ex.mk 5 0 0 [] [x] (nxtP en ts)))∧(∀p e,s2=.er p e→G=.er p e):=by
  have h:=like1 (pOp en nest [91] ts.tail) (fun t=>pWh en f (nest+1) t) (fun t=>pMust en [93] t) (fun x=>(Ex.mk 5 0 0 [] [x] (nxtP en ts)))
  have e:G=(pOp en nest [91] ts.tail).bind fun _ t=>(pWh en f (nest+1) t).bind fun x t=>(pMust en [93] t).bind fun _ t=>.ok (Ex.mk 5 0 0 [] [x] (nxtP en ts)) t:=by
   rw[hG,pBr_op]
   try simp only[PR.bind_assoc,PR.bind_ok]
  rw[← e,← hs1,← hs2,← hs3] at h
  exact h
 have hne2:s2≠.er (0,0) 0:=fun h=>hne (key.2.2 _ _ h)
 clear hne hG
 have hpe:pkS (PR.ok () ts)=[103,101,116]:=pk_of' hds hL (by decide) hnx
 obtain⟨u1,hu1⟩:=nm (w.alloc (.cells #[Zi 0,Zi 0,Zi 0,Ze,Zn,Zi 0,Zi 0] 66))
 have hb0:Below w.heap.size w u1:=by rw[hu1];exact bel_al _ _
 have HQ:=Zh ((DQ.start hds).bel hb0)
 have HR:Hid (Row7 u1 w.heap.size (Zi 0) (Zi 0) (Zi 0) (Ze) (Zn) (Zi 0) (Zi 0)):=Zh (by rw[hu1];exact heap_alloc_new _ _ rfl)
 have HC:=Zh (cS HQ.out.lt (blk_lt HR.out))
 clear hb0
 clear hds
 go_enter Tryz.func93,Tryz.ntmps93
 go_upto_region 1 with fail
 rw[← hu1]
 clear hu1
 obtain⟨⟨pl,pc⟩,hp,hsp⟩:=dspot_any u1 pb al L en nest (PR.ok () ts) HQ.out.ds
 go_wp2_with fail
 refine (show Calls Tryz.prog 62 #[Zp pb] u1 (fun e w2=>e=.returned (.agg #[Zi (pl:Int),Zi (pc:Int)])∧Below u1.heap.size u1 w2) from hsp).mono ?_
 rintro e u2 ⟨rfl,hb⟩
 replace HR:=Zh (HR.out.kept hb)
 replace HQ:=Zh (HQ.out.bel hb)
 replace HC:=Zh (cU HC.out hb.size)
 clear hb
 clear hsp
 obtain⟨u3,hu3⟩:=nm (u2.alloc (.cells #[Zi (pl:Int),Zi (pc:Int)] 43))
 obtain⟨BA,hBA⟩:=nm u2.heap.size
 have hb:Below u2.heap.size u2 u3:=by rw[hu3];exact bel_al _ _
 have HA:Hid (RowP u3 BA (Zi (pl:Int)) (Zi (pc:Int))):=Zh (by rw[hu3,hBA];exact heap_alloc_new _ _ rfl)
 have hc0:=HC.out
 replace HR:=Zh (HR.out.kept hb)
 replace HQ:=Zh (HQ.out.bel hb)
 replace HC:=Zh (cA HC.out hBA (blk_lt HA.out))
 clear hb hc0
 go_upto_region 2 with fail
 rw[← hu3,← hBA]
 clear hu3 hBA
 go_wp2_with fail
 refine (show Calls Tryz.prog 56 #[Zp pb] u3 (fun e w2=>e=.returned (.string ⟨#[103,101,116]⟩)∧Below u3.heap.size u3 w2) from by have h:=peek_any u3 pb al L en nest (PR.ok () ts) HQ.out.ds;rw[hpe] at h;exact h).mono ?_
 rintro e u4 ⟨rfl,hb⟩
 replace HR:=Zh (HR.out.kept hb)
 replace HA:=Zh (HA.out.kept hb)
 replace HQ:=Zh (HQ.out.bel hb)
 replace HC:=Zh (cU HC.out hb.size)
 clear hb
 have hts:ts≠[]:=by
  rintro rfl
  exact absurd hnx (by decide)
 obtain⟨k,c1,f1,hk,hds⟩:=HQ.out.ds.adv hlen hts
 obtain⟨k1,hk1⟩:∃k1:Int,k1=((k+1:Nat):Int):=⟨_,rfl⟩
 have hw1:IntKind.i64.wrap ((k:Int)+1)=k1:=by rw[IntKind.wrap_i64];omega
 obtain⟨u5,hu5⟩:=nm (u4.setCell ⟨pb,1,none⟩ (Zi k1))
 have ht:T1 pb u4 u5:=by rw[hu5];exact T1.set
 have hds2:DS u5 pb al L en nest (PR.ok () ts.tail:PR Unit):=by rw[hu5,hk1];exact hds _ _
 clear hds
 replace HR:=Zh (HR.out.t1 ht (by have:=HC.out;omega))
 replace HA:=Zh (HA.out.t1 ht (by have:=HC.out;omega))
 replace HQ:=Zh (HQ.out.call ht hds2)
 replace HC:=Zh (cU HC.out ht.size)
 clear ht hds2 hk hk1
 go_upto_region 11 with fail
 rw[← hu5]
 clear hu5 c1 f1 hw1 hts
 have hpe2:pkS (PR.ok () ts.tail)=[91]:=pk_of' HQ.out.ds hL (by decide) hnx2
 go_wp2_with fail
 refine (show Calls Tryz.prog 56 #[Zp pb] u5 (fun e w2=>e=.returned (.string ⟨#[91]⟩)∧Below u5.heap.size u5 w2) from by have h:=peek_any u5 pb al L en nest (PR.ok () ts.tail) HQ.out.ds;rw[hpe2] at h;exact h).mono ?_
 rintro e u6 ⟨rfl,hb⟩
 replace HR:=Zh (HR.out.kept hb)
 replace HA:=Zh (HA.out.kept hb)
 replace HQ:=Zh (HQ.out.bel hb)
 replace HC:=Zh (cU HC.out hb.size)
 clear hb
 go_wp2_with fail
 refine (show Calls Tryz.prog 58 #[Zp pb,.string ⟨#[91]⟩] u6 (fun e w'=>e=.returned (.tuple #[])∧DS w' pb al L en (nest+1) s1∧T1 pb u6 w') from by rw[hs1];exact dopens_any u6 pb al L en nest (.ok () ts.tail) [91] hL hlen (by omega) (by decide) HQ.out.ds).mono ?_
 rintro e u7 ⟨rfl,hds,ht⟩
 replace HR:=Zh (HR.out.t1 ht (by have:=HC.out;omega))
 replace HA:=Zh (HA.out.t1 ht (by have:=HC.out;omega))
 replace HQ:=Zh (HQ.out.call ht hds)
 replace HC:=Zh (cU HC.out ht.size)
 clear ht hds
 obtain⟨n1,hn1⟩:=nm u7.heap.size
 replace HC:=Zh (cM HC.out hn1)
 go_wp2_with fail
 refine (show Calls Tryz.prog 57 #[Zp pb,Zi 1] u7 (DP A7 u7 pb al L en (nest+1) s2 (okE (New noB u7.heap.size))) from by rw[hs2];exact hW u7 s1 (nest+1) HQ.out.ds (by rw[← hs2];exact hne2)).mono ?_
 rintro e u8 ⟨_,rfl,⟨xk,xo,xn,xl,xm,xs,xa,xq,xc,rfl⟩,hds,ht,hv⟩
 replace HR:=Zh (HR.out.t1 ht (by have:=HC.out;omega))
 replace HA:=Zh (HA.out.t1 ht (by have:=HC.out;omega))
 replace HQ:=Zh (HQ.out.call ht hds)
 replace HC:=Zh (cU HC.out ht.size)
 clear ht hds
 obtain⟨u9,hu9⟩:=nm (u8.alloc (.cells #[Zi xk,Zi xo,Zi xn,.string xs,.slice xa xq xc,Zi xl,Zi xm] 66))
 obtain⟨BX,hBX⟩:=nm u8.heap.size
 have hb:Below u8.heap.size u8 u9:=by rw[hu9];exact bel_al _ _
 have HX:Hid (Row7 u9 BX (Zi xk) (Zi xo) (Zi xn) (.string xs) (.slice xa xq xc) (Zi xl) (Zi xm)):=Zh (by rw[hu9,hBX];exact heap_alloc_new _ _ rfl)
 have HVx:Hid (OV okE (fun k=>n1≤k∧k < BX) s2 (.agg #[Zi xk,Zi xo,Zi xn,.string xs,.slice xa xq xc,Zi xl,Zi xm]) u9):=Zh (OV.res hv okE_f okE_lt' hb (fun k h1 h2=>⟨by omega,by omega⟩))
 clear hv
 have hc0:=HC.out
 replace HR:=Zh (HR.out.kept hb)
 replace HA:=Zh (HA.out.kept hb)
 replace HQ:=Zh (HQ.out.bel hb)
 replace HC:=Zh (cA HC.out hBX (blk_lt HX.out))
 clear hb hc0
 go_upto_region 14 with fail
 rw[← hu9,← hBX]
 clear hu9 hBX
 clear hn1
 go_wp2_with fail
 refine (show Calls Tryz.prog 60 #[Zp pb,.string ⟨#[93]⟩] u9 (fun e w'=>e=.returned (.tuple #[])∧DS w' pb al L en nest s3∧T1 pb u9 w') from by rw[hs3,← toU_bind];exact dcloses_any u9 pb al L en nest (toU s2) [93] hL hlen (by omega) (by decide) HQ.out.ds.toU).mono ?_
 rintro e u10 ⟨rfl,hds,ht⟩
 replace HR:=Zh (HR.out.t1 ht (by have:=HC.out;omega))
 replace HA:=Zh (HA.out.t1 ht (by have:=HC.out;omega))
 replace HX:=Zh (HX.out.t1 ht (by have:=HC.out;omega))
 replace HVx:=Zh (HVx.out.t1 okE_f ht (fun k (hk:n1≤k∧k < BX)=>by have:=HC.out;omega))
 replace HQ:=Zh (HQ.out.call ht hds)
 replace HC:=Zh (cU HC.out ht.size)
 clear ht hds
 obtain⟨v9,hv9⟩:=nm (u10.alloc (.cells #[Zi xk,Zi xo,Zi xn,.string xs,.slice xa xq xc,Zi xl,Zi xm] 66))
 have hb:Below u10.heap.size u10 v9:=by rw[hv9];exact bel_al _ _
 have hc:=HC.out
 have hv:OV okE (fun k=>w.heap.size < k) G (.agg #[Zi 5,Zi 0,Zi 0,Ze,.slice (some ⟨u10.heap.size,0,none⟩) 1 1,Zi (pl:Int),Zi (pc:Int)]) v9:=fun X r e=>by
  obtain⟨x,rx,ex,rfl⟩:=key.2.1 X r e
  have hpp:=hp () ts rfl
  rw[← hpp]
  refine⟨_,rfl,?_⟩
  rw[hv9]
  exact ArC_new (okE_cons (okE_mono (HVx.out x rx ex) (fun k hk _=>by obtain⟨h1,h2⟩:=hk;omega)) .nil) (fun k hk=>hk) (by omega)
 have hq9:DQ w v9 pb al L en nest G:=(HQ.out.call (T1.bel (Below.refl _ _)) (HQ.out.ds.like key.1)).bel hb
 obtain⟨⟨x0,x1,x2,x3,x4,x5,x6⟩,_⟩:=HX.out.cells
 obtain⟨a0,a1⟩:=(HA.out.kept hb).cells.1
 have HR9:Hid (Row7 v9 w.heap.size (Zi 0) (Zi 0) (Zi 0) (Ze) (Zn) (Zi 0) (Zi 0)):=Zh (HR.out.kept hb)
 clear HR
 have HR:=Zh HR9.out
 clear HR9
 have HF:=Zh (dres7 (P':=New noB w.heap.size) hq9 (by omega) HR.out ⟨_,_,_,_,_,_,_,_,_,rfl⟩ okE_f hv (fun k (hk:w.heap.size < k)=>⟨.inr (by omega),by omega⟩))
 obtain⟨_,f0,f1,f2,f3,f4,f5,f6⟩:=HR.out.cells
 clear HQ HR hv hq9 hc HC HVx HA HX hb key
 subst hv9
 go_wp2_with fail
 obtain⟨⟨d0,d1,d2,d3,d4,d5,d6⟩,_⟩:=HF.out.1.cells
 exact bodyPost_ret (v:=.agg #[Zi 5,Zi 0,Zi 0,Ze,.slice (some ⟨u10.heap.size,0,none⟩) 1 1,Zi (pl:Int),Zi (pc:Int)]) (by simp[results,Tryz.results93,go_sem,d0,d1,d2,d3,d4,d5,d6]) rfl HF.out.2
theorem dprim_get {pb:Nat} {al:Value} {L:List Tok} {en:Nat × Nat} (hL:TksOk L) (hlen:L.length≤70000) (w:World) (ts:List Tok) (nest:Nat) (hds:DS w pb al L en nest (PR.ok () ts:PR Unit)) (hnx:nxtT ts=[103,101,116]) (hnx2:¬nxtT ts.tail=[91]):Calls Tryz.prog 93 #[Zp pb] w (DP A7 w pb al L en nest ((pBr en nest [40] [41] ts.tail fun _ r=>pName en r).bind fun n r=>.ok (.mk 3 0 0 n.1 [] (nxtP en ts)) r) (okE (New noB w.heap.size))):=by
 have hn:nest≤200:=hds.1
 obtain⟨s2,hs2⟩:=nm ((pBr en nest [40] [41] ts.tail fun _ r=>pName en r).bind fun n r=>.ok n.1 r:PR (List UInt8))
 obtain⟨G,hG⟩:=nm (((pBr en nest [40] [41] ts.tail fun _ r=>pName en r).bind fun n r=>.ok (.mk 3 0 0 n.1 [] (nxtP en ts)) r):PR Ex)
 rw[← hG]
 have hGe:G=s2.bind fun n r=>.ok (Ex.mk 3 0 0 n [] (nxtP en ts)) r:=by
  rw[hG,hs2,PR.bind_assoc]
  rfl
 clear hG
 have hpe:pkS (PR.ok () ts)=[103,101,116]:=pk_of' hds hL (by decide) hnx
 obtain⟨u1,hu1⟩:=nm (w.alloc (.cells #[Zi 0,Zi 0,Zi 0,Ze,Zn,Zi 0,Zi 0] 66))
 have hb0:Below w.heap.size w u1:=by rw[hu1];exact bel_al _ _
 have HQ:=Zh ((DQ.start hds).bel hb0)
 have HR:Hid (Row7 u1 w.heap.size (Zi 0) (Zi 0) (Zi 0) (Ze) (Zn) (Zi 0) (Zi 0)):=Zh (by rw[hu1];exact heap_alloc_new _ _ rfl)
 have HC:=Zh (cS HQ.out.lt (blk_lt HR.out))
 clear hb0
 clear hds
 go_enter Tryz.func93,Tryz.ntmps93
 go_upto_region 1 with fail
 rw[← hu1]
 clear hu1
 obtain⟨⟨pl,pc⟩,hp,hsp⟩:=dspot_any u1 pb al L en nest (PR.ok () ts) HQ.out.ds
 go_wp2_with fail
 refine (show Calls Tryz.prog 62 #[Zp pb] u1 (fun e w2=>e=.returned (.agg #[Zi (pl:Int),Zi (pc:Int)])∧Below u1.heap.size u1 w2) from hsp).mono ?_
 rintro e u2 ⟨rfl,hb⟩
 replace HR:=Zh (HR.out.kept hb)
 replace HQ:=Zh (HQ.out.bel hb)
 replace HC:=Zh (cU HC.out hb.size)
 clear hb
 clear hsp
 obtain⟨u3,hu3⟩:=nm (u2.alloc (.cells #[Zi (pl:Int),Zi (pc:Int)] 43))
 obtain⟨BA,hBA⟩:=nm u2.heap.size
 have hb:Below u2.heap.size u2 u3:=by rw[hu3];exact bel_al _ _
 have HA:Hid (RowP u3 BA (Zi (pl:Int)) (Zi (pc:Int))):=Zh (by rw[hu3,hBA];exact heap_alloc_new _ _ rfl)
 have hc0:=HC.out
 replace HR:=Zh (HR.out.kept hb)
 replace HQ:=Zh (HQ.out.bel hb)
 replace HC:=Zh (cA HC.out hBA (blk_lt HA.out))
 clear hb hc0
 go_upto_region 2 with fail
 rw[← hu3,← hBA]
 clear hu3 hBA
 go_wp2_with fail
 refine (show Calls Tryz.prog 56 #[Zp pb] u3 (fun e w2=>e=.returned (.string ⟨#[103,101,116]⟩)∧Below u3.heap.size u3 w2) from by have h:=peek_any u3 pb al L en nest (PR.ok () ts) HQ.out.ds;rw[hpe] at h;exact h).mono ?_
 rintro e u4 ⟨rfl,hb⟩
 replace HR:=Zh (HR.out.kept hb)
 replace HA:=Zh (HA.out.kept hb)
 replace HQ:=Zh (HQ.out.bel hb)
 replace HC:=Zh (cU HC.out hb.size)
 clear hb
 have hts:ts≠[]:=by
  rintro rfl
  exact absurd hnx (by decide)
 obtain⟨k,c1,f1,hk,hds⟩:=HQ.out.ds.adv hlen hts
 obtain⟨k1,hk1⟩:∃k1:Int,k1=((k+1:Nat):Int):=⟨_,rfl⟩
 have hw1:IntKind.i64.wrap ((k:Int)+1)=k1:=by rw[IntKind.wrap_i64];omega
 obtain⟨u5,hu5⟩:=nm (u4.setCell ⟨pb,1,none⟩ (Zi k1))
 have ht:T1 pb u4 u5:=by rw[hu5];exact T1.set
 have hds2:DS u5 pb al L en nest (PR.ok () ts.tail:PR Unit):=by rw[hu5,hk1];exact hds _ _
 clear hds
 replace HR:=Zh (HR.out.t1 ht (by have:=HC.out;omega))
 replace HA:=Zh (HA.out.t1 ht (by have:=HC.out;omega))
 replace HQ:=Zh (HQ.out.call ht hds2)
 replace HC:=Zh (cU HC.out ht.size)
 clear ht hds2 hk hk1
 go_upto_region 11 with fail
 rw[← hu5]
 clear hu5 c1 f1 hw1 hts
 have hno:¬pkS (PR.ok () ts.tail)=[91]:=fun h=>by
  obtain⟨_,_,e,h2,_⟩:=pkS_ok HQ.out.ds hL (by decide) h
  cases e
  exact hnx2 h2
 obtain⟨tx,htx⟩:=nm (S (pkS (PR.ok () ts.tail)))
 have q91:(tx.toList == [91])=false:=by rw[htx,S_toList];simpa using hno
 have hpk:=peek_any u5 pb al L en nest (PR.ok () ts.tail) HQ.out.ds
 rw[← htx] at hpk
 clear htx hno
 go_wp2_with fail
 refine (show Calls Tryz.prog 56 #[Zp pb] u5 (fun e w2=>e=.returned (.string tx)∧Below u5.heap.size u5 w2) from hpk).mono ?_
 rintro e u6 ⟨rfl,hb⟩
 replace HR:=Zh (HR.out.kept hb)
 replace HA:=Zh (HA.out.kept hb)
 replace HQ:=Zh (HQ.out.bel hb)
 replace HC:=Zh (cU HC.out hb.size)
 clear hb
 clear hpk
 have HJ:=Zh (show Calls Tryz.prog 115 #[Zp pb] u6 (DP AStr u6 pb al L en nest s2 (okT (New noB u6.heap.size))) from by rw[hs2];exact dwithin_any hL hlen u6 ts.tail nest HQ.out.ds)
 go_wp2_with fail
 refine HJ.out.mono ?_
 clear HJ
 rintro e u7 ⟨_,rfl,⟨ns,rfl⟩,hds,ht,hv⟩
 replace HR:=Zh (HR.out.t1 ht (by have:=HC.out;omega))
 replace HA:=Zh (HA.out.t1 ht (by have:=HC.out;omega))
 replace HQ:=Zh (HQ.out.call ht hds)
 replace HC:=Zh (cU HC.out ht.size)
 clear ht hds
 have hpp:=hp () ts rfl
 obtain⟨⟨a0,a1⟩,_⟩:=HA.out.cells
 have hc:=HC.out
 have HF:=Zh (dres7 (P':=New noB w.heap.size) (show DQ w u7 pb al L en nest G from HQ.out.call (T1.bel (Below.refl _ _)) (by rw[hGe];exact HQ.out.ds.like (like_unit s2 _))) (by omega) HR.out ⟨_,_,_,_,_,_,_,_,_,rfl⟩ okE_f (show OV okE (fun _=>False) G (.agg #[Zi 3,Zi 0,Zi 0,.string ns,Zn,Zi (pl:Int),Zi (pc:Int)]) _ from fun X r e=>by
   rw[hGe] at e
   obtain⟨x,rx,e2,e3⟩:=PR.bind_inv e
   simp only[PR.ok.injEq] at e3
   obtain⟨rfl,_⟩:=e3
   have h:(.string ns:Value)=.string (S x):=hv x rx e2
   simp only[Value.string.injEq] at h
   rw[h,← hpp]
   exact⟨_,rfl,.none⟩) (fun k hk=>hk.elim))
 obtain⟨_,f0,f1,f2,f3,f4,f5,f6⟩:=HR.out.cells
 clear HQ HR hc HC HA hp hpp hv hs2 hGe hpe hnx
 go_wp2_with fail
 obtain⟨⟨d0,d1,d2,d3,d4,d5,d6⟩,_⟩:=HF.out.1.cells
 exact bodyPost_ret (v:=.agg #[Zi 3,Zi 0,Zi 0,.string ns,Zn,Zi (pl:Int),Zi (pc:Int)]) (by simp[results,Tryz.results93,go_sem,d0,d1,d2,d3,d4,d5,d6]) rfl HF.out.2
theorem dprim_has {pb:Nat} {al:Value} {L:List Tok} {en:Nat × Nat} (hL:TksOk L) (hlen:L.length≤70000) (w:World) (ts:List Tok) (nest:Nat) (hds:DS w pb al L en nest (PR.ok () ts:PR Unit)) (hnx:nxtT ts=[104,97,115]):Calls Tryz.prog 93 #[Zp pb] w (DP A7 w pb al L en nest ((pBr en nest [40] [41] ts.tail fun _ r=>pName en r).bind fun n r=>.ok (.mk 4 0 0 n.1 [] (nxtP en ts)) r) (okE (New noB w.heap.size))):=by
 have hn:nest≤200:=hds.1
 obtain⟨s2,hs2⟩:=nm ((pBr en nest [40] [41] ts.tail fun _ r=>pName en r).bind fun n r=>.ok n.1 r:PR (List UInt8))
 obtain⟨G,hG⟩:=nm (((pBr en nest [40] [41] ts.tail fun _ r=>pName en r).bind fun n r=>.ok (.mk 4 0 0 n.1 [] (nxtP en ts)) r):PR Ex)
 rw[← hG]
 have hGe:G=s2.bind fun n r=>.ok (Ex.mk 4 0 0 n [] (nxtP en ts)) r:=by
  rw[hG,hs2,PR.bind_assoc]
  rfl
 clear hG
 have hpe:pkS (PR.ok () ts)=[104,97,115]:=pk_of' hds hL (by decide) hnx
 obtain⟨u1,hu1⟩:=nm (w.alloc (.cells #[Zi 0,Zi 0,Zi 0,Ze,Zn,Zi 0,Zi 0] 66))
 have hb0:Below w.heap.size w u1:=by rw[hu1];exact bel_al _ _
 have HQ:=Zh ((DQ.start hds).bel hb0)
 have HR:Hid (Row7 u1 w.heap.size (Zi 0) (Zi 0) (Zi 0) (Ze) (Zn) (Zi 0) (Zi 0)):=Zh (by rw[hu1];exact heap_alloc_new _ _ rfl)
 have HC:=Zh (cS HQ.out.lt (blk_lt HR.out))
 clear hb0
 clear hds
 go_enter Tryz.func93,Tryz.ntmps93
 go_upto_region 1 with fail
 rw[← hu1]
 clear hu1
 obtain⟨⟨pl,pc⟩,hp,hsp⟩:=dspot_any u1 pb al L en nest (PR.ok () ts) HQ.out.ds
 go_wp2_with fail
 refine (show Calls Tryz.prog 62 #[Zp pb] u1 (fun e w2=>e=.returned (.agg #[Zi (pl:Int),Zi (pc:Int)])∧Below u1.heap.size u1 w2) from hsp).mono ?_
 rintro e u2 ⟨rfl,hb⟩
 replace HR:=Zh (HR.out.kept hb)
 replace HQ:=Zh (HQ.out.bel hb)
 replace HC:=Zh (cU HC.out hb.size)
 clear hb
 clear hsp
 obtain⟨u3,hu3⟩:=nm (u2.alloc (.cells #[Zi (pl:Int),Zi (pc:Int)] 43))
 obtain⟨BA,hBA⟩:=nm u2.heap.size
 have hb:Below u2.heap.size u2 u3:=by rw[hu3];exact bel_al _ _
 have HA:Hid (RowP u3 BA (Zi (pl:Int)) (Zi (pc:Int))):=Zh (by rw[hu3,hBA];exact heap_alloc_new _ _ rfl)
 have hc0:=HC.out
 replace HR:=Zh (HR.out.kept hb)
 replace HQ:=Zh (HQ.out.bel hb)
 replace HC:=Zh (cA HC.out hBA (blk_lt HA.out))
 clear hb hc0
 go_upto_region 2 with fail
 rw[← hu3,← hBA]
 clear hu3 hBA
 go_wp2_with fail
 refine (show Calls Tryz.prog 56 #[Zp pb] u3 (fun e w2=>e=.returned (.string ⟨#[104,97,115]⟩)∧Below u3.heap.size u3 w2) from by have h:=peek_any u3 pb al L en nest (PR.ok () ts) HQ.out.ds;rw[hpe] at h;exact h).mono ?_
 rintro e u4 ⟨rfl,hb⟩
 replace HR:=Zh (HR.out.kept hb)
 replace HA:=Zh (HA.out.kept hb)
 replace HQ:=Zh (HQ.out.bel hb)
 replace HC:=Zh (cU HC.out hb.size)
 clear hb
 have hts:ts≠[]:=by
  rintro rfl
  exact absurd hnx (by decide)
 obtain⟨k,c1,f1,hk,hds⟩:=HQ.out.ds.adv hlen hts
 obtain⟨k1,hk1⟩:∃k1:Int,k1=((k+1:Nat):Int):=⟨_,rfl⟩
 have hw1:IntKind.i64.wrap ((k:Int)+1)=k1:=by rw[IntKind.wrap_i64];omega
 obtain⟨u5,hu5⟩:=nm (u4.setCell ⟨pb,1,none⟩ (Zi k1))
 have ht:T1 pb u4 u5:=by rw[hu5];exact T1.set
 have hds2:DS u5 pb al L en nest (PR.ok () ts.tail:PR Unit):=by rw[hu5,hk1];exact hds _ _
 clear hds
 replace HR:=Zh (HR.out.t1 ht (by have:=HC.out;omega))
 replace HA:=Zh (HA.out.t1 ht (by have:=HC.out;omega))
 replace HQ:=Zh (HQ.out.call ht hds2)
 replace HC:=Zh (cU HC.out ht.size)
 clear ht hds2 hk hk1
 go_upto_region 20 with fail
 rw[← hu5]
 clear hu5 c1 f1 hw1 hts
 have HJ:=Zh (show Calls Tryz.prog 115 #[Zp pb] u5 (DP AStr u5 pb al L en nest s2 (okT (New noB u5.heap.size))) from by rw[hs2];exact dwithin_any hL hlen u5 ts.tail nest HQ.out.ds)
 go_wp2_with fail
 refine HJ.out.mono ?_
 clear HJ
 rintro e u6 ⟨_,rfl,⟨ns,rfl⟩,hds,ht,hv⟩
 replace HR:=Zh (HR.out.t1 ht (by have:=HC.out;omega))
 replace HA:=Zh (HA.out.t1 ht (by have:=HC.out;omega))
 replace HQ:=Zh (HQ.out.call ht hds)
 replace HC:=Zh (cU HC.out ht.size)
 clear ht hds
 have hpp:=hp () ts rfl
 obtain⟨⟨a0,a1⟩,_⟩:=HA.out.cells
 have hc:=HC.out
 have HF:=Zh (dres7 (P':=New noB w.heap.size) (show DQ w u6 pb al L en nest G from HQ.out.call (T1.bel (Below.refl _ _)) (by rw[hGe];exact HQ.out.ds.like (like_unit s2 _))) (by omega) HR.out ⟨_,_,_,_,_,_,_,_,_,rfl⟩ okE_f (show OV okE (fun _=>False) G (.agg #[Zi 4,Zi 0,Zi 0,.string ns,Zn,Zi (pl:Int),Zi (pc:Int)]) _ from fun X r e=>by
   rw[hGe] at e
   obtain⟨x,rx,e2,e3⟩:=PR.bind_inv e
   simp only[PR.ok.injEq] at e3
   obtain⟨rfl,_⟩:=e3
   have h:(.string ns:Value)=.string (S x):=hv x rx e2
   simp only[Value.string.injEq] at h
   rw[h,← hpp]
   exact⟨_,rfl,.none⟩) (fun k hk=>hk.elim))
 obtain⟨_,f0,f1,f2,f3,f4,f5,f6⟩:=HR.out.cells
 clear HQ HR hc HC HA hp hpp hv hs2 hGe hpe hnx
 go_wp2_with fail
 obtain⟨⟨d0,d1,d2,d3,d4,d5,d6⟩,_⟩:=HF.out.1.cells
 exact bodyPost_ret (v:=.agg #[Zi 4,Zi 0,Zi 0,.string ns,Zn,Zi (pl:Int),Zi (pc:Int)]) (by simp[results,Tryz.results93,go_sem,d0,d1,d2,d3,d4,d5,d6]) rfl HF.out.2
theorem dprim_min {pb:Nat} {al:Value} {L:List Tok} {en:Nat × Nat} {f:Nat} (hL:TksOk L) (hlen:L.length≤70000) (hW:DCw pb al L en f) (w:World) (ts:List Tok) (nest:Nat) (hds:DS w pb al L en nest (PR.ok () ts:PR Unit)) (hnx:nxtT ts=[109,105,110]) (hne:(((pTw en f nest ts.tail).bind fun xy r5=>.ok (.mk 7 28 0 [] [xy.1,xy.2] (nxtP en ts)) r5):PR Ex)≠.er (0,0) 0):Calls Tryz.prog 93 #[Zp pb] w (DP A7 w pb al L en nest ((pTw en f nest ts.tail).bind fun xy r5=>.ok (.mk 7 28 0 [] [xy.1,xy.2] (nxtP en ts)) r5) (okE (New noB w.heap.size))):=by
 have hn:nest≤200:=hds.1
 obtain⟨G,hG⟩:=nm (((pTw en f nest ts.tail).bind fun xy r5=>.ok (.mk 7 28 0 [] [xy.1,xy.2] (nxtP en ts)) r5):PR Ex)
 rw[← hG] at hne ⊢
 have hpe:pkS (PR.ok () ts)=[109,105,110]:=pk_of' hds hL (by decide) hnx
 obtain⟨u1,hu1⟩:=nm (w.alloc (.cells #[Zi 0,Zi 0,Zi 0,Ze,Zn,Zi 0,Zi 0] 66))
 have hb0:Below w.heap.size w u1:=by rw[hu1];exact bel_al _ _
 have HQ:=Zh ((DQ.start hds).bel hb0)
 have HR:Hid (Row7 u1 w.heap.size (Zi 0) (Zi 0) (Zi 0) (Ze) (Zn) (Zi 0) (Zi 0)):=Zh (by rw[hu1];exact heap_alloc_new _ _ rfl)
 have HC:=Zh (cS HQ.out.lt (blk_lt HR.out))
 clear hb0
 clear hds
 go_enter Tryz.func93,Tryz.ntmps93
 go_upto_region 1 with fail
 rw[← hu1]
 clear hu1
 obtain⟨⟨pl,pc⟩,hp,hsp⟩:=dspot_any u1 pb al L en nest (PR.ok () ts) HQ.out.ds
 go_wp2_with fail
 refine (show Calls Tryz.prog 62 #[Zp pb] u1 (fun e w2=>e=.returned (.agg #[Zi (pl:Int),Zi (pc:Int)])∧Below u1.heap.size u1 w2) from hsp).mono ?_
 rintro e u2 ⟨rfl,hb⟩
 replace HR:=Zh (HR.out.kept hb)
 replace HQ:=Zh (HQ.out.bel hb)
 replace HC:=Zh (cU HC.out hb.size)
 clear hb
 clear hsp
 obtain⟨u3,hu3⟩:=nm (u2.alloc (.cells #[Zi (pl:Int),Zi (pc:Int)] 43))
 obtain⟨BA,hBA⟩:=nm u2.heap.size
 have hb:Below u2.heap.size u2 u3:=by rw[hu3];exact bel_al _ _
 have HA:Hid (RowP u3 BA (Zi (pl:Int)) (Zi (pc:Int))):=Zh (by rw[hu3,hBA];exact heap_alloc_new _ _ rfl)
 have hc0:=HC.out
 replace HR:=Zh (HR.out.kept hb)
 replace HQ:=Zh (HQ.out.bel hb)
 replace HC:=Zh (cA HC.out hBA (blk_lt HA.out))
 clear hb hc0
 go_upto_region 2 with fail
 rw[← hu3,← hBA]
 clear hu3 hBA
 go_wp2_with fail
 refine (show Calls Tryz.prog 56 #[Zp pb] u3 (fun e w2=>e=.returned (.string ⟨#[109,105,110]⟩)∧Below u3.heap.size u3 w2) from by have h:=peek_any u3 pb al L en nest (PR.ok () ts) HQ.out.ds;rw[hpe] at h;exact h).mono ?_
 rintro e u4 ⟨rfl,hb⟩
 replace HR:=Zh (HR.out.kept hb)
 replace HA:=Zh (HA.out.kept hb)
 replace HQ:=Zh (HQ.out.bel hb)
 replace HC:=Zh (cU HC.out hb.size)
 clear hb
 have hts:ts≠[]:=by
  rintro rfl
  exact absurd hnx (by decide)
 obtain⟨k,c1,f1,hk,hds⟩:=HQ.out.ds.adv hlen hts
 obtain⟨k1,hk1⟩:∃k1:Int,k1=((k+1:Nat):Int):=⟨_,rfl⟩
 have hw1:IntKind.i64.wrap ((k:Int)+1)=k1:=by rw[IntKind.wrap_i64];omega
 obtain⟨u5,hu5⟩:=nm (u4.setCell ⟨pb,1,none⟩ (Zi k1))
 have ht:T1 pb u4 u5:=by rw[hu5];exact T1.set
 have hds2:DS u5 pb al L en nest (PR.ok () ts.tail:PR Unit):=by rw[hu5,hk1];exact hds _ _
 clear hds
 replace HR:=Zh (HR.out.t1 ht (by have:=HC.out;omega))
 replace HA:=Zh (HA.out.t1 ht (by have:=HC.out;omega))
 replace HQ:=Zh (HQ.out.call ht hds2)
 replace HC:=Zh (cU HC.out ht.size)
 clear ht hds2 hk hk1
 go_upto_region 25 with fail
 rw[← hu5]
 clear hu5 c1 f1 hw1 hts
 have hpp:=hp () ts rfl
 obtain⟨⟨a0,a1⟩,_⟩:=HA.out.cells
 go_wp2_with fail
 refine (show Calls Tryz.prog 116 #[Zp pb,.string ⟨#[109,105,110]⟩,.agg #[Zi (pl:Int),Zi (pc:Int)]] u5 (DP A7 u5 pb al L en nest G (okE (New noB u5.heap.size))) from by rw[hG,← hpp];exact dtwoMin_any hL hlen hW u5 ts.tail nest pl pc HQ.out.ds (by rw[hpp,← hG];exact hne)).mono ?_
 rintro e u6 ⟨_,rfl,⟨xk,xo,xn,xl,xm,xs,xa,xq,xc,rfl⟩,hds,ht,hv⟩
 have hsz:=ht.size
 have hc1:=HC.out
 replace HR:=Zh (HR.out.t1 ht (by have:=HC.out;omega))
 replace HA:=Zh (HA.out.t1 ht (by have:=HC.out;omega))
 replace HQ:=Zh (HQ.out.call ht hds)
 replace HC:=Zh (cU HC.out ht.size)
 clear ht hds
 have hc:=HC.out
 clear a0 a1
 have HF:=Zh (dres7 (P':=New noB w.heap.size) HQ.out (by omega) HR.out ⟨_,_,_,_,_,_,_,_,_,rfl⟩ okE_f (OV.mono (P:=fun k=>w.heap.size < k) hv okE_f okE_lt' (fun k h1 h2=>by omega)) (fun k (hk:w.heap.size < k)=>⟨.inr (by omega),by omega⟩))
 obtain⟨_,f0,f1,f2,f3,f4,f5,f6⟩:=HR.out.cells
 clear HQ HR hc hc1 hv HC HA hp hpp hsz hG hne hpe hnx
 go_wp2_with fail
 obtain⟨⟨d0,d1,d2,d3,d4,d5,d6⟩,_⟩:=HF.out.1.cells
 exact bodyPost_ret (v:=.agg #[Zi xk,Zi xo,Zi xn,.string xs,.slice xa xq xc,Zi xl,Zi xm]) (by simp[results,Tryz.results93,go_sem,d0,d1,d2,d3,d4,d5,d6]) rfl HF.out.2
theorem dprim_max {pb:Nat} {al:Value} {L:List Tok} {en:Nat × Nat} {f:Nat} (hL:TksOk L) (hlen:L.length≤70000) (hW:DCw pb al L en f) (w:World) (ts:List Tok) (nest:Nat) (hds:DS w pb al L en nest (PR.ok () ts:PR Unit)) (hnx:nxtT ts=[109,97,120]) (hne:(((pTw en f nest ts.tail).bind fun xy r5=>.ok (.mk 7 29 0 [] [xy.1,xy.2] (nxtP en ts)) r5):PR Ex)≠.er (0,0) 0):Calls Tryz.prog 93 #[Zp pb] w (DP A7 w pb al L en nest ((pTw en f nest ts.tail).bind fun xy r5=>.ok (.mk 7 29 0 [] [xy.1,xy.2] (nxtP en ts)) r5) (okE (New noB w.heap.size))):=by
 have hn:nest≤200:=hds.1
 obtain⟨G,hG⟩:=nm (((pTw en f nest ts.tail).bind fun xy r5=>.ok (.mk 7 29 0 [] [xy.1,xy.2] (nxtP en ts)) r5):PR Ex)
 rw[← hG] at hne ⊢
 have hpe:pkS (PR.ok () ts)=[109,97,120]:=pk_of' hds hL (by decide) hnx
 obtain⟨u1,hu1⟩:=nm (w.alloc (.cells #[Zi 0,Zi 0,Zi 0,Ze,Zn,Zi 0,Zi 0] 66))
 have hb0:Below w.heap.size w u1:=by rw[hu1];exact bel_al _ _
 have HQ:=Zh ((DQ.start hds).bel hb0)
 have HR:Hid (Row7 u1 w.heap.size (Zi 0) (Zi 0) (Zi 0) (Ze) (Zn) (Zi 0) (Zi 0)):=Zh (by rw[hu1];exact heap_alloc_new _ _ rfl)
 have HC:=Zh (cS HQ.out.lt (blk_lt HR.out))
 clear hb0
 clear hds
 go_enter Tryz.func93,Tryz.ntmps93
 go_upto_region 1 with fail
 rw[← hu1]
 clear hu1
 obtain⟨⟨pl,pc⟩,hp,hsp⟩:=dspot_any u1 pb al L en nest (PR.ok () ts) HQ.out.ds
 go_wp2_with fail
 refine (show Calls Tryz.prog 62 #[Zp pb] u1 (fun e w2=>e=.returned (.agg #[Zi (pl:Int),Zi (pc:Int)])∧Below u1.heap.size u1 w2) from hsp).mono ?_
 rintro e u2 ⟨rfl,hb⟩
 replace HR:=Zh (HR.out.kept hb)
 replace HQ:=Zh (HQ.out.bel hb)
 replace HC:=Zh (cU HC.out hb.size)
 clear hb
 clear hsp
 obtain⟨u3,hu3⟩:=nm (u2.alloc (.cells #[Zi (pl:Int),Zi (pc:Int)] 43))
 obtain⟨BA,hBA⟩:=nm u2.heap.size
 have hb:Below u2.heap.size u2 u3:=by rw[hu3];exact bel_al _ _
 have HA:Hid (RowP u3 BA (Zi (pl:Int)) (Zi (pc:Int))):=Zh (by rw[hu3,hBA];exact heap_alloc_new _ _ rfl)
 have hc0:=HC.out
 replace HR:=Zh (HR.out.kept hb)
 replace HQ:=Zh (HQ.out.bel hb)
 replace HC:=Zh (cA HC.out hBA (blk_lt HA.out))
 clear hb hc0
 go_upto_region 2 with fail
 rw[← hu3,← hBA]
 clear hu3 hBA
 go_wp2_with fail
 refine (show Calls Tryz.prog 56 #[Zp pb] u3 (fun e w2=>e=.returned (.string ⟨#[109,97,120]⟩)∧Below u3.heap.size u3 w2) from by have h:=peek_any u3 pb al L en nest (PR.ok () ts) HQ.out.ds;rw[hpe] at h;exact h).mono ?_
 rintro e u4 ⟨rfl,hb⟩
 replace HR:=Zh (HR.out.kept hb)
 replace HA:=Zh (HA.out.kept hb)
 replace HQ:=Zh (HQ.out.bel hb)
 replace HC:=Zh (cU HC.out hb.size)
 clear hb
 have hts:ts≠[]:=by
  rintro rfl
  exact absurd hnx (by decide)
 obtain⟨k,c1,f1,hk,hds⟩:=HQ.out.ds.adv hlen hts
 obtain⟨k1,hk1⟩:∃k1:Int,k1=((k+1:Nat):Int):=⟨_,rfl⟩
 have hw1:IntKind.i64.wrap ((k:Int)+1)=k1:=by rw[IntKind.wrap_i64];omega
 obtain⟨u5,hu5⟩:=nm (u4.setCell ⟨pb,1,none⟩ (Zi k1))
 have ht:T1 pb u4 u5:=by rw[hu5];exact T1.set
 have hds2:DS u5 pb al L en nest (PR.ok () ts.tail:PR Unit):=by rw[hu5,hk1];exact hds _ _
 clear hds
 replace HR:=Zh (HR.out.t1 ht (by have:=HC.out;omega))
 replace HA:=Zh (HA.out.t1 ht (by have:=HC.out;omega))
 replace HQ:=Zh (HQ.out.call ht hds2)
 replace HC:=Zh (cU HC.out ht.size)
 clear ht hds2 hk hk1
 go_upto_region 25 with fail
 rw[← hu5]
 clear hu5 c1 f1 hw1 hts
 have hpp:=hp () ts rfl
 obtain⟨⟨a0,a1⟩,_⟩:=HA.out.cells
 go_wp2_with fail
 refine (show Calls Tryz.prog 116 #[Zp pb,.string ⟨#[109,97,120]⟩,.agg #[Zi (pl:Int),Zi (pc:Int)]] u5 (DP A7 u5 pb al L en nest G (okE (New noB u5.heap.size))) from by rw[hG,← hpp];exact dtwoMax_any hL hlen hW u5 ts.tail nest pl pc HQ.out.ds (by rw[hpp,← hG];exact hne)).mono ?_
 rintro e u6 ⟨_,rfl,⟨xk,xo,xn,xl,xm,xs,xa,xq,xc,rfl⟩,hds,ht,hv⟩
 have hsz:=ht.size
 have hc1:=HC.out
 replace HR:=Zh (HR.out.t1 ht (by have:=HC.out;omega))
 replace HA:=Zh (HA.out.t1 ht (by have:=HC.out;omega))
 replace HQ:=Zh (HQ.out.call ht hds)
 replace HC:=Zh (cU HC.out ht.size)
 clear ht hds
 have hc:=HC.out
 clear a0 a1
 have HF:=Zh (dres7 (P':=New noB w.heap.size) HQ.out (by omega) HR.out ⟨_,_,_,_,_,_,_,_,_,rfl⟩ okE_f (OV.mono (P:=fun k=>w.heap.size < k) hv okE_f okE_lt' (fun k h1 h2=>by omega)) (fun k (hk:w.heap.size < k)=>⟨.inr (by omega),by omega⟩))
 obtain⟨_,f0,f1,f2,f3,f4,f5,f6⟩:=HR.out.cells
 clear HQ HR hc hc1 hv HC HA hp hpp hsz hG hne hpe hnx
 go_wp2_with fail
 obtain⟨⟨d0,d1,d2,d3,d4,d5,d6⟩,_⟩:=HF.out.1.cells
 exact bodyPost_ret (v:=.agg #[Zi xk,Zi xo,Zi xn,.string xs,.slice xa xq xc,Zi xl,Zi xm]) (by simp[results,Tryz.results93,go_sem,d0,d1,d2,d3,d4,d5,d6]) rfl HF.out.2
end Go.Proofs.YtlfooogmoigpfaaGreatDoor
