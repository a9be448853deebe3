import Derived.Deep.CutBlock
import Derived.Deep.MidRow
import Derived.Test.YtlfooogmoigpfaaGreatDoorQar
import Derived.Test.YtlfooogmoigpfaaGreatDoorQas
import Derived.Test.YtlfooogmoigpfaaGreatDoorQaa
set_option maxRecDepth 100000
set_option maxHeartbeats 8000000
namespace Go.Proofs.YtlfooogmoigpfaaGreatDoor
open Go.RowKit Go.Sort Go.Shelf
theorem dstmt_any {pb:Nat} {al:Value} {L:List Tok} {en:Nat × Nat} {f:Nat} (hL:TksOk L) (hlen:L.length≤70000) (hB:DCb pb al L en f) (hD:DCd pb al L en f):DCs pb al L en (f+1):=by
 intro w ts nest hds hne
 have hn:nest≤200:=hds.1
 have ht:=hds.toks hL
 obtain⟨G,hG⟩:=nm (pSt en (f+1) nest ts)
 rw[← hG] at hne ⊢
 obtain⟨zT,hzT⟩:=nm (Obj.cells #[Zi 0,Ze,Zi 0,Zi 0,Zi 0,Ze,Zn,Zi 0,Zi 0,Zi 0,Zi 0,Zi 0,Ze,Zn,Zi 0,Zi 0,Zn,Zn,Zi 0,Zi 0] 117 (0,0))
 obtain⟨u1,hu1⟩:=nm (w.alloc (.cells #[Zi 0,Ze,Zi 0,Zi 0,Zi 0,Ze,Zn,Zi 0,Zi 0,Zi 0,Zi 0,Zi 0,Ze,Zn,Zi 0,Zi 0,Zn,Zn,Zi 0,Zi 0] 117))
 have hb0:Below w.heap.size w u1:=by rw[hu1];exact bel_al _ _
 have HQ:=Zh ((DQ.start hds).bel hb0)
 have hz1:u1.heap[w.heap.size]? = some zT:=by rw[hu1,hzT];exact heap_alloc_new _ _ rfl
 have HR:=Zh hz1
 clear hb0 hds hz1
 go_enter Tryz.func95,Tryz.ntmps95
 go_upto_region 1 with fail
 rw[← hu1]
 clear hu1
 obtain⟨⟨pl,pc⟩,hp,hsp⟩:=dspot_any u1 pb al L en nest (PR.ok () ts:PR Unit) HQ.out.ds
 have HSp:=Zh hsp
 have hpp:(pl,pc)=nxtP en ts:=hp () ts rfl
 clear hsp hp
 go_wp2_with fail
 refine HSp.out.mono ?_
 rintro e u2 ⟨rfl,hb⟩
 obtain⟨uz,huz⟩:=nm (u2.alloc (.cells #[Zi 0,Ze,Zi 0,Zi 0,Zi 0,Ze,Zn,Zi 0,Zi 0,Zi 0,Zi 0,Zi 0,Ze,Zn,Zi 0,Zi 0,Zn,Zn,Zi 0,Zi 0] 117))
 obtain⟨u3,hu3⟩:=nm (u2.alloc (.cells #[Zi 0,Ze,Zi 0,Zi 0,Zi 0,Ze,Zn,Zi 0,Zi 0,Zi 0,Zi 0,Zi 0,Ze,Zn,Zi 0,Zi 0,Zn,Zn,Zi (pl:Int),Zi (pc:Int)] 117))
 obtain⟨BT,hBT⟩:=nm u2.heap.size
 have hzz:uz.heap[BT]? = some (.cells #[Zi 0,Ze,Zi 0,Zi 0,Zi 0,Ze,Zn,Zi 0,Zi 0,Zi 0,Zi 0,Zi 0,Ze,Zn,Zi 0,Zi 0,Zn,Zn,Zi 0,Zi 0] 117 (0,0)):=by rw[huz,hBT];exact heap_alloc_new _ _ rfl
 have hW2:uz.setRow BT #[Zi 0,Ze,Zi 0,Zi 0,Zi 0,Ze,Zn,Zi 0,Zi 0,Zi 0,Zi 0,Zi 0,Ze,Zn,Zi 0,Zi 0,Zn,Zn,Zi (pl:Int),Zi (pc:Int)]=u3:=by rw[huz,hBT,hu3];exact World.setRow_alloc_new _ _ _ _
 have HS:Hid (PQ w u3 pb al L en nest (PR.ok () ts:PR Unit) w.heap.size BT zT (.cells #[Zi 0,Ze,Zi 0,Zi 0,Zi 0,Ze,Zn,Zi 0,Zi 0,Zi 0,Zi 0,Zi 0,Ze,Zn,Zi 0,Zi 0,Zn,Zn,Zi (pl:Int),Zi (pc:Int)] 117 (0,0))):=Zh (by
  have hl:=blk_lt HR.out
  have hb4:Below u2.heap.size u2 u3:=by rw[hu3];exact bel_al _ _
  have hz:=(hb4.block _ (Nat.lt_of_lt_of_le hl hb.size)).trans ((hb.block _ hl).trans HR.out)
  have hd:u3.heap[BT]? = some (.cells #[Zi 0,Ze,Zi 0,Zi 0,Zi 0,Ze,Zn,Zi 0,Zi 0,Zi 0,Zi 0,Zi 0,Ze,Zn,Zi 0,Zi 0,Zn,Zn,Zi (pl:Int),Zi (pc:Int)] 117 (0,0)):=by rw[hu3,hBT];exact heap_alloc_new _ _ rfl
  exact⟨(HQ.out.bel hb).bel hb4,Nat.le_refl _,by have:=hb.size;omega,blk_lt hd,hz,hd⟩)
 clear hb hu3 HQ HR HSp
 go_upto_region 2 with (first | (rw[← huz,← hBT];refine wpList_store_row rfl 117 _ _ rfl BT #[Zi 0,Ze,Zi 0,Zi 0,Zi 0,Ze,Zn,Zi 0,Zi 0,Zi 0,Zi 0,Zi 0,Ze,Zn,Zi 0,Zi 0,Zn,Zn,Zi (pl:Int),Zi (pc:Int)] rfl rfl 117 _ hzz (by kernel_rfl) rfl (by kernel_rfl) ?_))
 rw[hW2]
 clear hW2 hzz huz hBT
 obtain⟨tx,htx⟩:=nm (S (pkS (PR.ok () ts:PR Unit)))
 have HKd:Hid (∀wd∈kwL,(nxtT ts=wd→tx=S wd)∧(¬nxtT ts=wd→(tx.toList == wd)=false)):=Zh fun wd hk=>⟨fun h=>by rw[htx];exact congrArg S (pk_of ht hk (kw_ne wd hk) h),fun h=>by rw[htx,S_toList];exact beq_eq_false_iff_ne.mpr (pk_ne ht hk (kw_ne wd hk) h)⟩
 have HJ:=Zh (peek_any u3 pb al L en nest (PR.ok () ts:PR Unit) HS.out.q.ds)
 rw[← htx] at HJ
 obtain⟨s',hs'⟩:=nm (pSi en nest ts)
 have hGs:¬nxtT ts=wIf→¬nxtT ts=wRepeat→G=s'.bind fun s r=>(pMust en [59] r).bind fun _ r2=>.ok s r2:=fun h1 h2=>by rw[hG,hs',pSt,if_neg h1,if_neg h2]
 obtain⟨st,hst⟩:=nm (if nxtT ts∈[wLet,wPut,wDel,wOut,wAbort,wStop,wIf,wRepeat] then ts.tail else ts)
 have HSt:=Zh hst
 have HGs:=Zh hGs
 have HG:=Zh hG
 have HS':=Zh hs'
 have HNe:=Zh hne
 have HTx:=Zh ht
 have HZt:=Zh hzT
 clear htx hst hGs hG hs' hne ht hzT
 go_wp2_with fail
 refine HJ.out.mono ?_
 rintro e u4 ⟨rfl,hb⟩
 replace HS:=Zh (HS.out.bel hb)
 clear hb HJ
 go_upto_block 0 with fail
 go_cut[] (fun wx=>Hid (PQ w wx pb al L en nest (PR.ok () st:PR Unit) w.heap.size BT zT (.cells #[Zi 0,Ze,Zi 0,Zi 0,Zi 0,Ze,Zn,Zi 0,Zi 0,Zi 0,Zi 0,Zi 0,Ze,Zn,Zi 0,Zi 0,Zn,Zn,Zi (pl:Int),Zi (pc:Int)] 117 (0,0))))
 case first=>
  by_cases h:nxtT ts∈[wLet,wPut,wDel,wOut,wAbort,wStop,wIf,wRepeat]
  ·have hs9:=HSt.out
   rw[if_pos h] at hs9
   subst hs9
   simp only[List.mem_cons,List.not_mem_nil,or_false] at h
   have hts:ts≠[]:=by rintro rfl;revert h;decide
   obtain⟨k,c1,f1,hk,hds⟩:=HS.out.q.ds.adv hlen hts
   obtain⟨k1,hk1⟩:∃k1:Int,k1=((k+1:Nat):Int):=⟨_,rfl⟩
   have hw1:IntKind.i64.wrap ((k:Int)+1)=k1:=by rw[IntKind.wrap_i64];omega
   have HDs:Hid (DS (u4.setCell ⟨pb,1,none⟩ (Zi k1)) pb al L en nest (PR.ok () ts.tail:PR Unit)):=Zh (by rw[hk1];exact hds _ _)
   clear hds hk1 hts hk
   rcases h with h | h | h | h | h | h | h | h
   ·obtain rfl:tx=⟨#[108,101,116]⟩:=(HKd.out wLet (by decide)).1 h
    clear h
    go_wp2_with fail
    go_meet
    exact Zh (HS.out.call T1.set HDs.out)
   ·obtain rfl:tx=⟨#[112,117,116]⟩:=(HKd.out wPut (by decide)).1 h
    clear h
    go_wp2_with fail
    go_meet
    exact Zh (HS.out.call T1.set HDs.out)
   ·obtain rfl:tx=⟨#[100,101,108]⟩:=(HKd.out wDel (by decide)).1 h
    clear h
    go_wp2_with fail
    go_meet
    exact Zh (HS.out.call T1.set HDs.out)
   ·obtain rfl:tx=⟨#[111,117,116]⟩:=(HKd.out wOut (by decide)).1 h
    clear h
    go_wp2_with fail
    go_meet
    exact Zh (HS.out.call T1.set HDs.out)
   ·obtain rfl:tx=⟨#[97,98,111,114,116]⟩:=(HKd.out wAbort (by decide)).1 h
    clear h
    go_wp2_with fail
    go_meet
    exact Zh (HS.out.call T1.set HDs.out)
   ·obtain rfl:tx=⟨#[115,116,111,112]⟩:=(HKd.out wStop (by decide)).1 h
    clear h
    go_wp2_with fail
    go_meet
    exact Zh (HS.out.call T1.set HDs.out)
   ·obtain rfl:tx=⟨#[105,102]⟩:=(HKd.out wIf (by decide)).1 h
    clear h
    go_wp2_with fail
    go_meet
    exact Zh (HS.out.call T1.set HDs.out)
   ·obtain rfl:tx=⟨#[114,101,112,101,97,116]⟩:=(HKd.out wRepeat (by decide)).1 h
    clear h
    go_wp2_with fail
    go_meet
    exact Zh (HS.out.call T1.set HDs.out)
  ·have hs9:=HSt.out
   rw[if_neg h] at hs9
   subst hs9
   have q0:(tx.toList == [108,101,116])=false:=(HKd.out wLet (by decide)).2 (fun e=>h (by simp[e]))
   have q1:(tx.toList == [112,117,116])=false:=(HKd.out wPut (by decide)).2 (fun e=>h (by simp[e]))
   have q2:(tx.toList == [100,101,108])=false:=(HKd.out wDel (by decide)).2 (fun e=>h (by simp[e]))
   have q3:(tx.toList == [111,117,116])=false:=(HKd.out wOut (by decide)).2 (fun e=>h (by simp[e]))
   have q4:(tx.toList == [97,98,111,114,116])=false:=(HKd.out wAbort (by decide)).2 (fun e=>h (by simp[e]))
   have q5:(tx.toList == [115,116,111,112])=false:=(HKd.out wStop (by decide)).2 (fun e=>h (by simp[e]))
   have q6:(tx.toList == [105,102])=false:=(HKd.out wIf (by decide)).2 (fun e=>h (by simp[e]))
   have q7:(tx.toList == [114,101,112,101,97,116])=false:=(HKd.out wRepeat (by decide)).2 (fun e=>h (by simp[e]))
   clear h
   go_wp2_with fail
   go_meet
   exact HS
 have HS:=hcut
 go_upto_block 1 with fail
 go_cut[] (fun wx=>∃cs,A20 (.agg cs)∧Hid (PQ w wx pb al L en nest s' w.heap.size BT zT (.cells cs 117 (0,0)))∧Hid (OV okSt (NB w.heap.size BT) s' (.agg cs) wx)∧Hid (¬nxtT ts=wIf∧¬nxtT ts=wRepeat))
 case first=>
  by_cases c0:nxtT ts=wIf
  ·obtain rfl:tx=⟨#[105,102]⟩:=(HKd.out wIf (by decide)).1 c0
   have e9:st=ts.tail:=by rw[HSt.out,if_pos (by rw[c0];decide)]
   subst e9
   have HGe:Hid (G=pCo en f nest (pl,pc) ts.tail):=Zh (by rw[HG.out,pSt,if_pos c0,hpp])
   obtain⟨_,_,_,_,_,_,_,_,_,_,_,_,_,_,_,_,_,_,e18,e19⟩:=Row20.cells HS.out.d
   have HJ:=Zh (show Calls Tryz.prog 118 #[Zp pb,.agg #[Zi (pl:Int),Zi (pc:Int)]] wc (DP A20 wc pb al L en nest G (okSt (New noB wc.heap.size))) from by rw[HGe.out];exact hD wc (.ok () ts.tail) nest (pl,pc) (by omega) HS.out.q.ds (by rw[PR.bind_ok,← HGe.out];exact HNe.out))
   go_wp2_with fail
   refine HJ.out.mono ?_
   rintro e u5 ⟨_,rfl,⟨k,xk,xo,xn,xl,xc,yk,yo,yn,yl,yc,l,c,s,xs,ys,xa,ya,ba,ea,xq,xqc,yq,yqc,bq,bqc,eq,eqc,rfl⟩,hds,ht,hv⟩
   have HS5:=HS.out.call ht hds
   have hz:u5.heap[w.heap.size]? = some (.cells #[Zi 0,Ze,Zi 0,Zi 0,Zi 0,Ze,Zn,Zi 0,Zi 0,Zi 0,Zi 0,Zi 0,Ze,Zn,Zi 0,Zi 0,Zn,Zn,Zi 0,Zi 0] 117 (0,0)):=HZt.out▸HS5.r
   have HF:=Zh (dres20 (P':=New noB w.heap.size) HS5.q (Nat.le_refl _) hz ⟨_,_,_,_,_,_,_,_,_,_,_,_,_,_,_,_,_,_,_,_,_,_,_,_,_,_,_,_,rfl⟩ okSt_f (HS.out.val okSt_f hv) (fun k hk=>⟨.inr (Nat.le_of_lt hk.1),Nat.ne_of_gt hk.1⟩))
   clear hds ht hv HS5 HS HJ HGe HKd HSt HGs HG HS' HNe HTx HZt hpp hn c0 e18 e19
   go_wp2_with (refine wpList_store_row rfl 117 _ _ rfl w.heap.size #[Zi k,.string s,Zi xk,Zi xo,Zi xn,.string xs,.slice xa xq xqc,Zi xl,Zi xc,Zi yk,Zi yo,Zi yn,.string ys,.slice ya yq yqc,Zi yl,Zi yc,.slice ba bq bqc,.slice ea eq eqc,Zi l,Zi c] rfl rfl 117 _ hz (by kernel_rfl) rfl (by kernel_rfl) ?_)
   obtain⟨h1,h2⟩:=HF.out
   clear HF hz
   generalize u5.setRow w.heap.size #[Zi k,.string s,Zi xk,Zi xo,Zi xn,.string xs,.slice xa xq xqc,Zi xl,Zi xc,Zi yk,Zi yo,Zi yn,.string ys,.slice ya yq yqc,Zi yl,Zi yc,.slice ba bq bqc,.slice ea eq eqc,Zi l,Zi c]=W7 at h1 h2 ⊢
   exact bodyPost_ret (v:=.agg #[Zi k,.string s,Zi xk,Zi xo,Zi xn,.string xs,.slice xa xq xqc,Zi xl,Zi xc,Zi yk,Zi yo,Zi yn,.string ys,.slice ya yq yqc,Zi yl,Zi yc,.slice ba bq bqc,.slice ea eq eqc,Zi l,Zi c]) (res_cell Tryz.results95 rfl h1.load) rfl h2
  by_cases c1:nxtT ts=wRepeat
  ·obtain rfl:tx=⟨#[114,101,112,101,97,116]⟩:=(HKd.out wRepeat (by decide)).1 c1
   have e9:st=ts.tail:=by rw[HSt.out,if_pos (by rw[c1];decide)]
   subst e9
   have hb:=like_bb (pW en nest ts.tail) (fun t=>pBl en f nest t) fun x b=>St.mk 10 [] x ex0 b [] (pl,pc)
   have hge:G=(pW en nest ts.tail).bind fun x r=>(pBl en f nest r).bind fun b r2=>.ok (St.mk 10 [] x ex0 b [] (pl,pc)) r2:=by rw[HG.out,pSt,if_neg c0,if_pos c1,hpp];rfl
   rw[← hge] at hb
   have HB:=Zh hb
   clear hb hge
   obtain⟨e0,_⟩:=Row20.cells HS.out.d
   obtain⟨f0,_⟩:=Row20.frz HS.out.d
   go_wp2_with fail
   refine (dW_any hL hlen _ (PR.ok () ts.tail:PR Unit) nest HS.out.t0.q.ds).mono ?_
   rintro e u5 ⟨_,rfl,⟨xk,xo,xn,xl,xm,xs,xa,xq,xc,rfl⟩,hds,ht,hv⟩
   have HS5:=Zh ((HS.out.t0).call ht hds)
   have HV5:=Zh (HS.out.t0.val okE_f hv)
   clear e0 f0
   clear ht hds hv
   obtain⟨_,_,e2,e3,e4,e5,e6,e7,e8,_⟩:=Row20.cells HS5.out.d
   obtain⟨_,_,f2,f3,f4,f5,f6,f7,f8,_⟩:=Row20.frz HS5.out.d
   go_wp2_with fail
   refine (hB _ (toU (pW en nest ts.tail)) nest (by omega) HS5.out.tX.q.ds.toU (by rw[toU_bind];exact fun h=>HNe.out (HB.out.1.2 _ _ h))).mono ?_
   rintro e u6 ⟨_,rfl,⟨ba,bq,bc,rfl⟩,hds,ht,hv⟩
   rw[toU_bind] at hds hv
   have HS6:=Zh (HS5.out.tX.call ht hds)
   have HVb:=Zh (HS5.out.tX.val okSs_f hv)
   have HVx:=Zh ((HV5.out.set7 okE_f).t1 okE_f ht HS5.out.ne)
   clear e2 f2 e3 f3 e4 f4 e5 f5 e6 f6 e7 f7 e8 f8
   clear ht hds hv
   obtain⟨_,_,_,_,_,_,_,_,_,_,_,_,_,_,_,_,e16,_⟩:=Row20.cells HS6.out.d
   obtain⟨_,_,_,_,_,_,_,_,_,_,_,_,_,_,_,_,f16,_⟩:=Row20.frz HS6.out.d
   obtain⟨u7,hu7⟩:=nm (u6.setCell ⟨BT,16,none⟩ (.slice ba bq bc))
   have HS7:Hid (PQ w u7 pb al L en nest ((pW en nest ts.tail).bind fun _ t=>pBl en f nest t) w.heap.size BT zT (.cells #[Zi 10,Ze,Zi xk,Zi xo,Zi xn,.string xs,.slice xa xq xc,Zi xl,Zi xm,Zi 0,Zi 0,Zi 0,Ze,Zn,Zi 0,Zi 0,.slice ba bq bc,Zn,Zi (pl:Int),Zi (pc:Int)] 117 (0,0))):=Zh (by rw[hu7];exact HS6.out.t16)
   have hv:OV okSt (NB w.heap.size BT) G (.agg #[Zi 10,Ze,Zi xk,Zi xo,Zi xn,.string xs,.slice xa xq xc,Zi xl,Zi xm,Zi 0,Zi 0,Zi 0,Ze,Zn,Zi 0,Zi 0,.slice ba bq bc,Zn,Zi (pl:Int),Zi (pc:Int)]) u7:=fun X r e=>by
    obtain⟨x,rx,b,rb,e1,e2,rfl⟩:=HB.out.2 X r e
    rw[hu7]
    exact okSt_new (p:=(pl,pc)) 10 [] ((HVx.out.set okE_f) x rx e1) (okE_zero _ _) ((HVb.out.set okSs_f) b rb e2) (RwS.nil _ _)
   go_upto_region 23 with fail
   rw[← hu7]
   clear hu7 e16 f16
   have hrg:=Row20.range HS7.out.d
   have hz:u7.heap[w.heap.size]? = some (.cells #[Zi 0,Ze,Zi 0,Zi 0,Zi 0,Ze,Zn,Zi 0,Zi 0,Zi 0,Zi 0,Zi 0,Ze,Zn,Zi 0,Zi 0,Zn,Zn,Zi 0,Zi 0] 117 (0,0)):=HZt.out▸HS7.out.r
   have HF:=Zh (dres20 (P':=New noB w.heap.size) (HS7.out.like HB.out.1).q (Nat.le_refl _) hz ⟨_,_,_,_,_,_,_,_,_,_,_,_,_,_,_,_,_,_,_,_,_,_,_,_,_,_,_,_,rfl⟩ okSt_f hv (fun k hk=>⟨.inr (Nat.le_of_lt hk.1),Nat.ne_of_gt hk.1⟩))
   clear HS HS5 HS6 HS7 HV5 HVx HVb HB hv HKd HSt HGs HG HS' HNe HTx HZt hpp hn c0 c1
   go_wp2_with (first | (refine wpList_load_mid rfl 117 _ rfl BT 0 rfl [Zi 10,Ze,Zi xk,Zi xo,Zi xn,.string xs,.slice xa xq xc,Zi xl,Zi xm,Zi 0,Zi 0,Zi 0,Ze,Zn,Zi 0,Zi 0,.slice ba bq bc,Zn,Zi (pl:Int),Zi (pc:Int)] _ hrg Tryz.underlying117 rfl (by kernel_rfl) ?_) | (refine wpList_store_row rfl 117 _ _ rfl w.heap.size #[Zi 10,Ze,Zi xk,Zi xo,Zi xn,.string xs,.slice xa xq xc,Zi xl,Zi xm,Zi 0,Zi 0,Zi 0,Ze,Zn,Zi 0,Zi 0,.slice ba bq bc,Zn,Zi (pl:Int),Zi (pc:Int)] rfl rfl 117 _ hz (by kernel_rfl) rfl (by kernel_rfl) ?_))
   obtain⟨h1,h2⟩:=HF.out
   clear HF hz hrg
   generalize u7.setRow w.heap.size #[Zi 10,Ze,Zi xk,Zi xo,Zi xn,.string xs,.slice xa xq xc,Zi xl,Zi xm,Zi 0,Zi 0,Zi 0,Ze,Zn,Zi 0,Zi 0,.slice ba bq bc,Zn,Zi (pl:Int),Zi (pc:Int)]=W7 at h1 h2 ⊢
   exact bodyPost_ret (v:=.agg #[Zi 10,Ze,Zi xk,Zi xo,Zi xn,.string xs,.slice xa xq xc,Zi xl,Zi xm,Zi 0,Zi 0,Zi 0,Ze,Zn,Zi 0,Zi 0,.slice ba bq bc,Zn,Zi (pl:Int),Zi (pc:Int)]) (res_cell Tryz.results95 rfl h1.load) rfl h2
  have HN:Hid (¬nxtT ts=wIf∧¬nxtT ts=wRepeat):=Zh ⟨c0,c1⟩
  have hs9:=HS'.out
  unfold pSi at hs9
  rw[← hpp] at hs9
  by_cases c4:nxtT ts=wPut∧nxtT ts.tail=[91]
  ·obtain⟨c4,c5⟩:=c4
   obtain rfl:tx=⟨#[112,117,116]⟩:=(HKd.out wPut (by decide)).1 c4
   have e9:st=ts.tail:=by rw[HSt.out,if_pos (by rw[c4];decide)]
   subst e9
   rw[if_neg (by rw[c4];decide),if_pos c4,if_pos c5,pBr_op] at hs9
   have hpk:=peek_any wc pb al L en nest (PR.ok () ts.tail:PR Unit) HS.out.q.ds
   rw[show pkS (PR.ok () ts.tail:PR Unit)=[91] from pk_of HTx.out.tail (by decide) (by decide) c5] at hpk
   have HPk:Hid (Calls Tryz.prog 56 #[Zp pb] wc (fun e w2=>e=.returned (.string ⟨#[91]⟩)∧Below wc.heap.size wc w2)):=Zh hpk
   have h:=like2 (pOp en nest [91] ts.tail) (fun t=>pW en (nest+1) t) (fun t=>(pMust en [93] t).bind fun _ t=>pMust en [61] t) (fun t=>pW en nest t) (fun t=>.ok () t) (fun x y=>St.mk 4 [] x y [] [] (pl,pc))
   obtain⟨s1,hs1⟩:=nm (pOp en nest [91] ts.tail)
   obtain⟨s2,hs2⟩:=nm (s1.bind fun _ t=>pW en (nest+1) t)
   obtain⟨s3,hs3⟩:=nm (s2.bind fun _ t=>pMust en [93] t)
   obtain⟨s4,hs4⟩:=nm (s3.bind fun _ t=>pGi en nest t)
   have HK:Hid (Like s4 s'∧∀X r,s'=.ok X r→∃x rx y ry,s2=.ok x rx∧s4=.ok y ry∧X=St.mk 4 [] x y [] [] (pl,pc)):=Zh (by
    have e:s'=(pOp en nest [91] ts.tail).bind fun _ t=>(pW en (nest+1) t).bind fun x t=>((pMust en [93] t).bind fun _ t=>pMust en [61] t).bind fun _ t=>(pW en nest t).bind fun y t=>(PR.ok () t:PR Unit).bind fun _ t=>.ok (St.mk 4 [] x y [] [] (pl,pc)) t:=by
     rw[hs9]
     simp only[PR.bind_assoc,PR.bind_ok]
    have e2:s4=((s2.bind fun _ t=>(pMust en [93] t).bind fun _ t=>pMust en [61] t).bind fun _ t=>pW en nest t):=by rw[hs4,hs3];simp only[PR.bind_assoc];rfl
    rw[← e,← hs1,← hs2,← e2] at h
    exact⟨⟨fun u r hu=>h.1.1 () r (by rw[hu];rfl),fun p x hu=>h.1.2 p x (by rw[hu];rfl)⟩,h.2.1⟩)
   clear hs9 h hpk c4 c5 c0 c1
   go_wp2_with fail
   refine HPk.out.mono ?_
   rintro e u5 ⟨rfl,hb⟩
   replace HS:=Zh (HS.out.bel hb)
   clear hb HPk
   go_wp2_with fail
   refine (show Calls Tryz.prog 58 #[Zp pb,.string ⟨#[91]⟩] u5 (fun e w'=>e=.returned (.tuple #[])∧DS w' pb al L en (nest+1) s1∧T1 pb u5 w') from by rw[hs1];exact dopens_any u5 pb al L en nest (.ok () ts.tail) [91] hL hlen (by omega) (by decide) HS.out.q.ds).mono ?_
   rintro e u6 ⟨rfl,hds,ht⟩
   replace HS:=Zh (HS.out.call ht hds)
   clear hds ht
   obtain⟨e0,_⟩:=Row20.cells HS.out.d
   obtain⟨f0,_⟩:=Row20.frz HS.out.d
   go_wp2_with fail
   refine (show Calls Tryz.prog 57 #[Zp pb,Zi 1] (u6.setCell ⟨BT,0,none⟩ (Zi 4)) (DP A7 _ pb al L en (nest+1) s2 (okE (New noB _))) from by rw[hs2];exact dW_any hL hlen _ s1 (nest+1) HS.out.t0.q.ds).mono ?_
   rintro e u7 ⟨_,rfl,⟨xk,xo,xn,xl,xm,xs,xa,xq,xc,rfl⟩,hds,ht,hv⟩
   have HS5:=Zh (HS.out.t0.call ht hds)
   have HV5:=Zh (HS.out.t0.val okE_f hv)
   clear e0 f0 ht hds hv
   obtain⟨_,_,e2,e3,e4,e5,e6,e7,e8,_⟩:=Row20.cells HS5.out.d
   obtain⟨_,_,f2,f3,f4,f5,f6,f7,f8,_⟩:=Row20.frz HS5.out.d
   obtain⟨u8,hu8⟩:=nm (((((((u7.setCell ⟨BT,2,none⟩ (Zi xk)).setCell ⟨BT,3,none⟩ (Zi xo)).setCell ⟨BT,4,none⟩ (Zi xn)).setCell ⟨BT,5,none⟩ (.string xs)).setCell ⟨BT,6,none⟩ (.slice xa xq xc)).setCell ⟨BT,7,none⟩ (Zi xl)).setCell ⟨BT,8,none⟩ (Zi xm))
   have HS8:Hid (PQ w u8 pb al L en (nest+1) s2 w.heap.size BT zT (.cells #[Zi 4,Ze,Zi xk,Zi xo,Zi xn,.string xs,.slice xa xq xc,Zi xl,Zi xm,Zi 0,Zi 0,Zi 0,Ze,Zn,Zi 0,Zi 0,Zn,Zn,Zi (pl:Int),Zi (pc:Int)] 117 (0,0))):=Zh (by rw[hu8];exact HS5.out.set7)
   have HV8:Hid (OV okE (NB w.heap.size BT) s2 (.agg #[Zi xk,Zi xo,Zi xn,.string xs,.slice xa xq xc,Zi xl,Zi xm]) u8):=Zh (by rw[hu8];exact HV5.out.set7 okE_f)
   go_upto_region 33 with fail
   rw[← hu8]
   clear e2 f2 e3 f3 e4 f4 e5 f5 e6 f6 e7 f7 e8 f8
   clear hu8
   go_wp2_with fail
   refine (show Calls Tryz.prog 60 #[Zp pb,.string ⟨#[93]⟩] u8 (fun e w'=>e=.returned (.tuple #[])∧DS w' pb al L en nest s3∧T1 pb u8 w') from by rw[hs3,← toU_bind];exact dcloses_any u8 pb al L en nest (toU s2) [93] hL hlen (by omega) (by decide) HS8.out.q.ds.toU).mono ?_
   rintro e u9 ⟨rfl,hds,ht⟩
   replace HV8:=Zh (HV8.out.t1 okE_f ht HS8.out.ne)
   replace HS8:=Zh (HS8.out.call ht hds)
   clear hds ht
   go_wp2_with fail
   refine (show Calls Tryz.prog 34 #[Zp pb] u9 (DP A7 u9 pb al L en nest s4 (okE (New noB u9.heap.size))) from by rw[hs4];exact dgivenW_any hL hlen u9 s3 nest HS8.out.q.ds).mono ?_
   rintro e ua ⟨_,rfl,⟨yk,yo,yn,yl,ym,ys,ya,yq,yc,rfl⟩,hds,ht,hv⟩
   have HV9:=Zh (HS8.out.val okE_f hv)
   replace HV8:=Zh (HV8.out.t1 okE_f ht HS8.out.ne)
   replace HS8:=Zh (HS8.out.call ht hds)
   clear hds ht hv
   obtain⟨_,_,_,_,_,_,_,_,_,e9,e10,e11,e12,e13,e14,e15,_⟩:=Row20.cells HS8.out.d
   obtain⟨_,_,_,_,_,_,_,_,_,f9,f10,f11,f12,f13,f14,f15,_⟩:=Row20.frz HS8.out.d
   have HO:Hid (∀U,OV okE (NB w.heap.size BT) s2 (.agg #[Zi xk,Zi xo,Zi xn,.string xs,.slice xa xq xc,Zi xl,Zi xm]) U→OV okE (NB w.heap.size BT) s4 (.agg #[Zi yk,Zi yo,Zi yn,.string ys,.slice ya yq yc,Zi yl,Zi ym]) U→OV okSt (NB w.heap.size BT) s' (.agg #[Zi 4,Ze,Zi xk,Zi xo,Zi xn,.string xs,.slice xa xq xc,Zi xl,Zi xm,Zi yk,Zi yo,Zi yn,.string ys,.slice ya yq yc,Zi yl,Zi ym,Zn,Zn,Zi (pl:Int),Zi (pc:Int)]) U):=Zh fun U h1 h2 X r e=>by
    obtain⟨x,rx,y,ry,e1,e2,rfl⟩:=HK.out.2 X r e
    exact okSt_new (p:=(pl,pc)) 4 [] (h1 x rx e1) (h2 y ry e2) (RwS.nil _ _) (RwS.nil _ _)
   clear hs1 hs2 hs3 hs4
   go_wp2_with fail
   go_meet
   exact⟨_,⟨_,_,_,_,_,_,_,_,_,_,_,_,_,_,_,_,_,_,_,_,_,_,_,_,_,_,_,_,rfl⟩,Zh (HS8.out.tY.like HK.out.1),Zh (HO.out _ (HV8.out.set7 okE_f) (HV9.out.set7 okE_f)),HN⟩
  by_cases c5:nxtT ts=wStop
  ·obtain rfl:tx=⟨#[115,116,111,112]⟩:=(HKd.out wStop (by decide)).1 c5
   have e9:st=ts.tail:=by rw[HSt.out,if_pos (by rw[c5];decide)]
   subst e9
   rw[if_neg (by rw[c5];decide),if_neg (by rw[c5];decide),if_neg (by rw[c5];decide),if_neg (by rw[c5];decide),if_neg (by rw[c5];decide),if_pos c5] at hs9
   have HK:=Zh hs9
   clear hs9 c4 c5 c0 c1
   have HO:Hid (∀U,OV okSt (NB w.heap.size BT) s' (.agg #[Zi 8,Ze,Zi 0,Zi 0,Zi 0,Ze,Zn,Zi 0,Zi 0,Zi 0,Zi 0,Zi 0,Ze,Zn,Zi 0,Zi 0,Zn,Zn,Zi (pl:Int),Zi (pc:Int)]) U):=Zh fun U X r e=>by
    rw[HK.out] at e
    cases e
    exact okSt_new (p:=(pl,pc)) 8 [] (okE_zero _ _) (okE_zero _ _) (RwS.nil _ _) (RwS.nil _ _)
   have HL:Hid (Like (PR.ok () ts.tail:PR Unit) s'):=Zh (by rw[HK.out];exact like_ok _ _ _)
   obtain⟨e0,_⟩:=Row20.cells HS.out.d
   obtain⟨f0,_⟩:=Row20.frz HS.out.d
   go_wp2_with fail
   go_meet
   exact⟨_,⟨_,_,_,_,_,_,_,_,_,_,_,_,_,_,_,_,_,_,_,_,_,_,_,_,_,_,_,_,rfl⟩,Zh (HS.out.t0.like HL.out),Zh (HO.out _),HN⟩
  by_cases c6:nxtT ts=wDel
  ·obtain rfl:tx=⟨#[100,101,108]⟩:=(HKd.out wDel (by decide)).1 c6
   have e9:st=ts.tail:=by rw[HSt.out,if_pos (by rw[c6];decide)]
   rw[if_neg (by rw[c6];decide),if_neg (by rw[c6];decide),if_pos c6,← e9] at hs9
   have HL:Hid (Like (pName en st) s'∧∀X r,s'=.ok X r→∃nm r,pName en st=.ok nm r∧X=St.mk 5 nm.1 ex0 ex0 [] [] (pl,pc)):=Zh (by rw[hs9];exact⟨like_unit _ _,fun X r e=>by obtain⟨nm,t,h1,h2⟩:=PR.bind_inv e;cases h2;exact⟨nm,_,h1,rfl⟩⟩)
   clear hs9 c4 c5 c6 c0 c1 e9
   obtain⟨e0,_⟩:=Row20.cells HS.out.d
   obtain⟨f0,_⟩:=Row20.frz HS.out.d
   go_wp2_with fail
   refine (dname_any _ pb al L en nest hlen (PR.ok () st:PR Unit) HS.out.t0.q.ds).mono ?_
   rintro e u5 ⟨_,rfl,⟨ns,nl,nq,rfl⟩,hds,ht,hv⟩
   have HS5:=Zh (HS.out.t0.call ht hds)
   have hfl:∀w:World,(Instr.field 89 (.agg #[.string ns,Zi nl,Zi nq]) 0).run Tryz.prog w=.ok (.string ns) w:=fun _=>by kernel_rfl
   have HVn:Hid (∀x r,(PR.ok () st:PR Unit).bind (fun _ ts=>pName en ts)=.ok x r→ns=S x.1):=Zh fun x r e=>(nm_text (hv x r e)).1
   clear e0 f0 ht hds hv
   obtain⟨_,e1,_⟩:=Row20.cells HS5.out.d
   obtain⟨_,f1,_⟩:=Row20.frz HS5.out.d
   have HO:Hid (∀U,OV okSt (NB w.heap.size BT) s' (.agg #[Zi 5,.string ns,Zi 0,Zi 0,Zi 0,Ze,Zn,Zi 0,Zi 0,Zi 0,Zi 0,Zi 0,Ze,Zn,Zi 0,Zi 0,Zn,Zn,Zi (pl:Int),Zi (pc:Int)]) U):=Zh fun U X r e=>by
    obtain⟨nm,r2,h1,rfl⟩:=HL.out.2 X r e
    rw[HVn.out nm r2 h1]
    exact okSt_new (p:=(pl,pc)) 5 nm.1 (okE_zero _ _) (okE_zero _ _) (RwS.nil _ _) (RwS.nil _ _)
   go_wp2_with fail
   go_meet
   exact⟨_,⟨_,_,_,_,_,_,_,_,_,_,_,_,_,_,_,_,_,_,_,_,_,_,_,_,_,_,_,_,rfl⟩,Zh (HS5.out.t1.like HL.out.1),Zh (HO.out _),HN⟩
  by_cases c7:nxtT ts=wOut∨nxtT ts=wAbort
  ·have HL:Hid (∃kk:Nat,(nxtT ts=wOut∧kk=6∨nxtT ts=wAbort∧kk=7)∧s'=(pW en nest ts.tail).bind fun x r=>.ok (St.mk kk [] x ex0 [] [] (pl,pc)) r):=Zh (by
    rcases c7 with c7 | c7
    ·rw[if_neg (by rw[c7];decide),if_neg (by rw[c7];decide),if_neg (by rw[c7];decide),if_pos c7] at hs9
     exact⟨6,.inl ⟨c7,rfl⟩,hs9⟩
    ·rw[if_neg (by rw[c7];decide),if_neg (by rw[c7];decide),if_neg (by rw[c7];decide),if_neg (by rw[c7];decide),if_pos c7] at hs9
     exact⟨7,.inr ⟨c7,rfl⟩,hs9⟩)
   clear hs9 c4 c5 c6 c7 c0 c1
   obtain⟨e0,_⟩:=Row20.cells HS.out.d
   obtain⟨f0,_⟩:=Row20.frz HS.out.d
   obtain⟨kk,hk,hl⟩:=HL.out
   rcases hk with ⟨c7,rfl⟩ | ⟨c7,rfl⟩
   ·obtain rfl:tx=⟨#[111,117,116]⟩:=(HKd.out wOut (by decide)).1 c7
    have e9:st=ts.tail:=by rw[HSt.out,if_pos (by rw[c7];decide)]
    rw[← e9] at hl
    have HL2:=Zh hl
    clear hl e9 c7 HL
    go_wp2_with fail
    refine (dW_any hL hlen _ (PR.ok () st:PR Unit) nest HS.out.t0.q.ds).mono ?_
    rintro e u5 ⟨_,rfl,⟨xk,xo,xn,xl,xm,xs,xa,xq,xc,rfl⟩,hds,ht,hv⟩
    have HS5:=Zh (HS.out.t0.call ht hds)
    have HV5:=Zh (HS.out.t0.val okE_f hv)
    clear e0 f0 ht hds hv
    obtain⟨_,_,e2,e3,e4,e5,e6,e7,e8,_⟩:=Row20.cells HS5.out.d
    obtain⟨_,_,f2,f3,f4,f5,f6,f7,f8,_⟩:=Row20.frz HS5.out.d
    have HO:Hid (∀U,OV okE (NB w.heap.size BT) ((PR.ok () st:PR Unit).bind fun _ ts=>pW en nest ts) (.agg #[Zi xk,Zi xo,Zi xn,.string xs,.slice xa xq xc,Zi xl,Zi xm]) U→OV okSt (NB w.heap.size BT) s' (.agg #[Zi 6,Ze,Zi xk,Zi xo,Zi xn,.string xs,.slice xa xq xc,Zi xl,Zi xm,Zi 0,Zi 0,Zi 0,Ze,Zn,Zi 0,Zi 0,Zn,Zn,Zi (pl:Int),Zi (pc:Int)]) U):=Zh fun U h1 X r e=>by
     rw[HL2.out] at e
     obtain⟨x,t,h2,h3⟩:=PR.bind_inv e
     cases h3
     exact okSt_new (p:=(pl,pc)) 6 [] (h1 x _ h2) (okE_zero _ _) (RwS.nil _ _) (RwS.nil _ _)
    have HLk:Hid (Like (pW en nest st) s'):=Zh (by rw[HL2.out];exact like_unit _ _)
    go_wp2_with fail
    go_meet
    exact⟨_,⟨_,_,_,_,_,_,_,_,_,_,_,_,_,_,_,_,_,_,_,_,_,_,_,_,_,_,_,_,rfl⟩,Zh (HS5.out.tX.like HLk.out),Zh (HO.out _ (HV5.out.set7 okE_f)),HN⟩
   ·obtain rfl:tx=⟨#[97,98,111,114,116]⟩:=(HKd.out wAbort (by decide)).1 c7
    have e9:st=ts.tail:=by rw[HSt.out,if_pos (by rw[c7];decide)]
    rw[← e9] at hl
    have HL2:=Zh hl
    clear hl e9 c7 HL
    go_wp2_with fail
    refine (dW_any hL hlen _ (PR.ok () st:PR Unit) nest HS.out.t0.q.ds).mono ?_
    rintro e u5 ⟨_,rfl,⟨xk,xo,xn,xl,xm,xs,xa,xq,xc,rfl⟩,hds,ht,hv⟩
    have HS5:=Zh (HS.out.t0.call ht hds)
    have HV5:=Zh (HS.out.t0.val okE_f hv)
    clear e0 f0 ht hds hv
    obtain⟨_,_,e2,e3,e4,e5,e6,e7,e8,_⟩:=Row20.cells HS5.out.d
    obtain⟨_,_,f2,f3,f4,f5,f6,f7,f8,_⟩:=Row20.frz HS5.out.d
    have HO:Hid (∀U,OV okE (NB w.heap.size BT) ((PR.ok () st:PR Unit).bind fun _ ts=>pW en nest ts) (.agg #[Zi xk,Zi xo,Zi xn,.string xs,.slice xa xq xc,Zi xl,Zi xm]) U→OV okSt (NB w.heap.size BT) s' (.agg #[Zi 7,Ze,Zi xk,Zi xo,Zi xn,.string xs,.slice xa xq xc,Zi xl,Zi xm,Zi 0,Zi 0,Zi 0,Ze,Zn,Zi 0,Zi 0,Zn,Zn,Zi (pl:Int),Zi (pc:Int)]) U):=Zh fun U h1 X r e=>by
     rw[HL2.out] at e
     obtain⟨x,t,h2,h3⟩:=PR.bind_inv e
     cases h3
     exact okSt_new (p:=(pl,pc)) 7 [] (h1 x _ h2) (okE_zero _ _) (RwS.nil _ _) (RwS.nil _ _)
    have HLk:Hid (Like (pW en nest st) s'):=Zh (by rw[HL2.out];exact like_unit _ _)
    go_wp2_with fail
    go_meet
    exact⟨_,⟨_,_,_,_,_,_,_,_,_,_,_,_,_,_,_,_,_,_,_,_,_,_,_,_,_,_,_,_,rfl⟩,Zh (HS5.out.tX.like HLk.out),Zh (HO.out _ (HV5.out.set7 okE_f)),HN⟩
  have HL:Hid (∃kk:Nat,(nxtT ts=wLet∧kk=1∧st=ts.tail∨nxtT ts=wPut∧kk=3∧st=ts.tail∨¬nxtT ts∈[wLet,wPut,wDel,wOut,wAbort,wStop,wIf,wRepeat]∧kk=2)∧s'=pAs en nest kk (pl,pc) st):=Zh (by
   by_cases c2:nxtT ts=wLet
   ·have e9:st=ts.tail:=by rw[HSt.out,if_pos (by rw[c2];decide)]
    rw[if_pos c2,← e9] at hs9
    exact⟨1,.inl ⟨c2,rfl,e9⟩,hs9⟩
   by_cases c3:nxtT ts=wPut
   ·have e9:st=ts.tail:=by rw[HSt.out,if_pos (by rw[c3];decide)]
    rw[if_neg c2,if_pos c3,if_neg (fun h=>c4 ⟨c3,h⟩),← e9] at hs9
    exact⟨3,.inr (.inl ⟨c3,rfl,e9⟩),hs9⟩
   ·have hn:¬nxtT ts∈[wLet,wPut,wDel,wOut,wAbort,wStop,wIf,wRepeat]:=fun h=>by
     simp only[List.mem_cons,List.not_mem_nil,or_false] at h
     rcases h with h | h | h | h | h | h | h | h
     ·exact c2 h
     ·exact c3 h
     ·exact c6 h
     ·exact c7 (.inl h)
     ·exact c7 (.inr h)
     ·exact c5 h
     ·exact c0 h
     ·exact c1 h
    have e9:st=ts:=by rw[HSt.out,if_neg hn]
    rw[if_neg c2,if_neg c3,if_neg c6,if_neg (fun h=>c7 (.inl h)),if_neg (fun h=>c7 (.inr h)),if_neg c5,← e9] at hs9
    exact⟨2,.inr (.inr ⟨hn,rfl⟩),hs9⟩)
  obtain⟨kk,hk,hl⟩:=HL.out
  have HN2:Hid (nxtT ts=wPut→¬nxtT ts.tail=[91]):=Zh fun h h2=>c4 ⟨h,h2⟩
  unfold pAs at hl
  have HB:Hid (Like ((pName en st).bind fun _ t=>pGi en nest t) s'∧∀X r,s'=.ok X r→∃nm rn x rx,pName en st=.ok nm rn∧((pName en st).bind fun _ t=>pGi en nest t)=.ok x rx∧X=St.mk kk nm.1 x ex0 [] [] (pl,pc)):=Zh (by
   have h:=like_bb (pName en st) (fun t=>pGi en nest t) fun nm x=>St.mk kk nm.1 x ex0 [] [] (pl,pc)
   have e:s'=(pName en st).bind fun nm r=>(pGi en nest r).bind fun x r3=>.ok (St.mk kk nm.1 x ex0 [] [] (pl,pc)) r3:=by
    rw[hl]
    unfold pGi
    simp only[PR.bind_assoc]
   rw[← e] at h
   exact h)
  obtain⟨kz,hkz⟩:∃kz:Int,kz=(kk:Int):=⟨_,rfl⟩
  have HKz:=Zh hkz
  clear hs9 hl HL c4 c5 c6 c7 c0 c1
  obtain⟨e0,_⟩:=Row20.cells HS.out.d
  obtain⟨f0,_⟩:=Row20.frz HS.out.d
  have HKe:Hid (kz=1∧kk=1∨kz=3∧kk=3∨kz=2∧kk=2):=Zh (by omega)
  have HO:Hid (∀ns xk xo xn xl xm xs xa xq xc U,(∀nm r,pName en st=.ok nm r→ns=S nm.1)→OV okE (NB w.heap.size BT) ((pName en st).bind fun _ t=>pGi en nest t) (.agg #[Zi xk,Zi xo,Zi xn,.string xs,.slice xa xq xc,Zi xl,Zi xm]) U→OV okSt (NB w.heap.size BT) s' (.agg #[Zi kz,.string ns,Zi xk,Zi xo,Zi xn,.string xs,.slice xa xq xc,Zi xl,Zi xm,Zi 0,Zi 0,Zi 0,Ze,Zn,Zi 0,Zi 0,Zn,Zn,Zi (pl:Int),Zi (pc:Int)]) U):=Zh fun ns xk xo xn xl xm xs xa xq xc U h1 h2 X r e=>by
   obtain⟨nm,rn,x,rx,e1,e2,rfl⟩:=HB.out.2 X r e
   rw[h1 nm rn e1,HKz.out]
   exact okSt_new (p:=(pl,pc)) kk nm.1 (h2 x rx e2) (okE_zero _ _) (RwS.nil _ _) (RwS.nil _ _)
  rcases hk with ⟨c2,rfl,e9⟩ | ⟨c3,rfl,e9⟩ | ⟨c3,rfl⟩
  focus
   obtain rfl:kz=1:=hkz
   obtain rfl:tx=⟨#[108,101,116]⟩:=(HKd.out wLet (by decide)).1 c2
   clear c2 e9 HKd
   go_wp2_with fail
  rotate_left
  focus
   obtain rfl:kz=3:=hkz
   obtain rfl:tx=⟨#[112,117,116]⟩:=(HKd.out wPut (by decide)).1 c3
   obtain⟨ty,hty⟩:=nm (S (pkS (PR.ok () ts.tail:PR Unit)))
   have q91:(ty.toList == [91])=false:=by rw[hty,S_toList];exact beq_eq_false_iff_ne.mpr (pk_ne HTx.out.tail (by decide) (by decide) (HN2.out c3))
   subst e9
   have HPk:=Zh (peek_any wc pb al L en nest (PR.ok () ts.tail:PR Unit) HS.out.q.ds)
   rw[← hty] at HPk
   clear c3 hty HKd e0 f0
   go_wp2_with fail
   refine HPk.out.mono ?_
   rintro e u5 ⟨rfl,hb⟩
   replace HS:=Zh (HS.out.bel hb)
   clear hb HPk
   obtain⟨e0,_⟩:=Row20.cells HS.out.d
   obtain⟨f0,_⟩:=Row20.frz HS.out.d
   go_wp2_with fail
  rotate_left
  focus
   obtain rfl:kz=2:=hkz
   have q0:(tx.toList == [108,101,116])=false:=(HKd.out wLet (by decide)).2 (fun e=>c3 (by simp[e]))
   have q1:(tx.toList == [112,117,116])=false:=(HKd.out wPut (by decide)).2 (fun e=>c3 (by simp[e]))
   have q2:(tx.toList == [100,101,108])=false:=(HKd.out wDel (by decide)).2 (fun e=>c3 (by simp[e]))
   have q3:(tx.toList == [111,117,116])=false:=(HKd.out wOut (by decide)).2 (fun e=>c3 (by simp[e]))
   have q4:(tx.toList == [97,98,111,114,116])=false:=(HKd.out wAbort (by decide)).2 (fun e=>c3 (by simp[e]))
   have q5:(tx.toList == [115,116,111,112])=false:=(HKd.out wStop (by decide)).2 (fun e=>c3 (by simp[e]))
   have q6:(tx.toList == [105,102])=false:=(HKd.out wIf (by decide)).2 (fun e=>c3 (by simp[e]))
   have q7:(tx.toList == [114,101,112,101,97,116])=false:=(HKd.out wRepeat (by decide)).2 (fun e=>c3 (by simp[e]))
   clear c3 HKd
   go_wp2_with fail
  rotate_left
  all_goals
   refine (dname_any _ pb al L en nest hlen (PR.ok () _:PR Unit) HS.out.t0.q.ds).mono ?_
   rintro e u5 ⟨_,rfl,⟨ns,nl,nq,rfl⟩,hds,ht,hv⟩
   have HS5:=Zh (HS.out.t0.call ht hds)
   have hfl:∀w:World,(Instr.field 89 (.agg #[.string ns,Zi nl,Zi nq]) 0).run Tryz.prog w=.ok (.string ns) w:=fun _=>by kernel_rfl
   have HVn:=Zh (fun x r e=>(nm_text (hv x r e)).1)
   clear e0 f0 ht hds hv
   obtain⟨_,e1,_⟩:=Row20.cells HS5.out.d
   obtain⟨_,f1,_⟩:=Row20.frz HS5.out.d
   go_wp2_with fail
   refine (dgivenW_any hL hlen _ _ nest HS5.out.t1.q.ds).mono ?_
   rintro e u6 ⟨_,rfl,⟨xk,xo,xn,xl,xm,xs,xa,xq,xc,rfl⟩,hds,ht,hv⟩
   have HS6:=Zh (HS5.out.t1.call ht hds)
   have HV6:=Zh (HS5.out.t1.val okE_f hv)
   clear e1 f1 ht hds hv hfl
   obtain⟨_,_,e2,e3,e4,e5,e6,e7,e8,_⟩:=Row20.cells HS6.out.d
   obtain⟨_,_,f2,f3,f4,f5,f6,f7,f8,_⟩:=Row20.frz HS6.out.d
   go_wp2_with fail
   go_meet
   exact⟨_,⟨_,_,_,_,_,_,_,_,_,_,_,_,_,_,_,_,_,_,_,_,_,_,_,_,_,_,_,_,rfl⟩,Zh (HS6.out.tX.like HB.out.1),Zh (HO.out _ _ _ _ _ _ _ _ _ _ _ HVn.out (HV6.out.set7 okE_f)),HN⟩
 obtain⟨cs,⟨k,xk,xo,xn,xl,xc,yk,yo,yn,yl,yc,l,c,s,xs,ys,xa,ya,ba,ea,xq,xqc,yq,yqc,bq,bqc,eq,eqc,hcs⟩,HS,HV,HN⟩:=hcut
 obtain rfl:=Value.agg.inj hcs
 clear hcs
 have HK:Hid (Like (s'.bind fun _ t=>pMust en [59] t) G∧∀X r,G=.ok X r→∃r',s'=.ok X r'):=Zh (by rw[HGs.out HN.out.1 HN.out.2];exact like_must s' _)
 clear HKd HTx HSt HS' HNe HG HGs HN hpp
 go_wp2_with fail
 refine (show Calls Tryz.prog 35 #[Zp pb,.string ⟨#[59]⟩] wc (fun e w'=>e=.returned (.tuple #[])∧DS w' pb al L en nest (s'.bind fun _ t=>pMust en [59] t)∧T1 pb wc w') from dtake_any wc pb al L en nest s' [59] hL hlen (by decide) HS.out.q.ds).mono ?_
 rintro e u9 ⟨rfl,hds,ht⟩
 replace HV:=Zh (HV.out.t1 okSt_f ht HS.out.ne)
 replace HS:=Zh (HS.out.call ht hds)
 clear ht hds
 have hv:OV okSt (NB w.heap.size BT) G (.agg #[Zi k,.string s,Zi xk,Zi xo,Zi xn,.string xs,.slice xa xq xqc,Zi xl,Zi xc,Zi yk,Zi yo,Zi yn,.string ys,.slice ya yq yqc,Zi yl,Zi yc,.slice ba bq bqc,.slice ea eq eqc,Zi l,Zi c]) u9:=fun X r e=>by
  obtain⟨r',h⟩:=HK.out.2 X r e
  exact HV.out X r' h
 have hrg:=Row20.range HS.out.d
 have hz:u9.heap[w.heap.size]? = some (.cells #[Zi 0,Ze,Zi 0,Zi 0,Zi 0,Ze,Zn,Zi 0,Zi 0,Zi 0,Zi 0,Zi 0,Ze,Zn,Zi 0,Zi 0,Zn,Zn,Zi 0,Zi 0] 117 (0,0)):=HZt.out▸HS.out.r
 have HF:=Zh (dres20 (P':=New noB w.heap.size) (HS.out.like HK.out.1).q (Nat.le_refl _) hz ⟨_,_,_,_,_,_,_,_,_,_,_,_,_,_,_,_,_,_,_,_,_,_,_,_,_,_,_,_,rfl⟩ okSt_f hv (fun k hk=>⟨.inr (Nat.le_of_lt hk.1),Nat.ne_of_gt hk.1⟩))
 clear HS HV HK hv HZt hn
 go_wp2_with (first | (refine wpList_load_mid rfl 117 _ rfl BT 0 rfl [Zi k,.string s,Zi xk,Zi xo,Zi xn,.string xs,.slice xa xq xqc,Zi xl,Zi xc,Zi yk,Zi yo,Zi yn,.string ys,.slice ya yq yqc,Zi yl,Zi yc,.slice ba bq bqc,.slice ea eq eqc,Zi l,Zi c] _ hrg Tryz.underlying117 rfl (by kernel_rfl) ?_) | (refine wpList_store_row rfl 117 _ _ rfl w.heap.size #[Zi k,.string s,Zi xk,Zi xo,Zi xn,.string xs,.slice xa xq xqc,Zi xl,Zi xc,Zi yk,Zi yo,Zi yn,.string ys,.slice ya yq yqc,Zi yl,Zi yc,.slice ba bq bqc,.slice ea eq eqc,Zi l,Zi c] rfl rfl 117 _ hz (by kernel_rfl) rfl (by kernel_rfl) ?_))
 obtain⟨h1,h2⟩:=HF.out
 clear HF hz hrg
 generalize u9.setRow w.heap.size #[Zi k,.string s,Zi xk,Zi xo,Zi xn,.string xs,.slice xa xq xqc,Zi xl,Zi xc,Zi yk,Zi yo,Zi yn,.string ys,.slice ya yq yqc,Zi yl,Zi yc,.slice ba bq bqc,.slice ea eq eqc,Zi l,Zi c]=W7 at h1 h2 ⊢
 exact bodyPost_ret (v:=.agg #[Zi k,.string s,Zi xk,Zi xo,Zi xn,.string xs,.slice xa xq xqc,Zi xl,Zi xc,Zi yk,Zi yo,Zi yn,.string ys,.slice ya yq yqc,Zi yl,Zi yc,.slice ba bq bqc,.slice ea eq eqc,Zi l,Zi c]) (res_cell Tryz.results95 rfl h1.load) rfl h2
section
variable {pb:Nat} {al:Value} {L:List Tok} {en:Nat × Nat} {f:Nat}
theorem dcond_any (hL:TksOk L) (hlen:L.length≤70000) (hB:DCb pb al L en f) (hD:DCd pb al L en f):DCd pb al L en (f+1):=fun w s nest p hn hds hne=>dcond_w hL hlen hB w s nest p hn hds hne (fun _=>hD)
theorem dall2 (hL:TksOk L) (hlen:L.length≤70000):∀f,(∀g,g≤f→DCb pb al L en g)∧(∀g,g≤f→DCs pb al L en g)∧(∀g,g≤f→DCd pb al L en g)
 | 0=>by
  have hz:∀Q:Nat→Prop,Q 0→∀g,g≤0→Q g:=fun Q h g hg=>by rw[Nat.le_zero.1 hg];exact h
  have hb:DCb pb al L en 0:=fun U s nest hn hds hne=>dblock_any hL hlen (fun g hg=>absurd hg (Nat.not_lt_zero g)) U s nest hn hds hne
  have hs:DCs pb al L en 0:=fun U ts nest hds hne=>absurd (by simp only[pSt]) hne
  have hd:DCd pb al L en 0:=fun U s nest p hn hds hne=>by
   cases s with
   | er q e=>exact dcond_w (f:=0) hL hlen hb U (.er q e) nest p hn hds (fun h=>hds.er_ne h) (fun ⟨_,h⟩=>by cases h)
   | ok u ts=>exact absurd (by rw[PR.bind_ok];simp only[pCo]) hne
  exact⟨hz _ hb,hz _ hs,hz _ hd⟩
 | f+1=>by
  obtain⟨iB,iS,iD⟩:=dall2 hL hlen f
  have hb:DCb pb al L en (f+1):=fun U s nest hn hds hne=>dblock_any hL hlen (fun g hg=>iS g (by omega)) U s nest hn hds hne
  have hs:=dstmt_any hL hlen (iB f (Nat.le_refl _)) (iD f (Nat.le_refl _))
  have hd:=dcond_any hL hlen (iB f (Nat.le_refl _)) (iD f (Nat.le_refl _))
  have key:∀(Q:Nat→Prop),(∀g,g≤f→Q g)→Q (f+1)→∀g,g≤f+1→Q g:=fun Q h1 h2 g hg=>by
   by_cases e:g=f+1
   ·subst e;exact h2
   ·exact h1 g (by omega)
  exact⟨key _ iB hb,key _ iS hs,key _ iD hd⟩
theorem dBlk_any {α:Type} (hL:TksOk L) (hlen:L.length≤70000) (U:World) (s:PR α) (nest:Nat) (hn:nest≤201) (hd:DS U pb al L en nest s):Calls Tryz.prog 61 #[Zp pb] U (DP ASl U pb al L en nest (s.bind fun _ ts=>pBlk en nest ts) (okSs (New noB U.heap.size))):=by
 cases s with
 | er p x=>exact (dall2 hL hlen 0).1 0 (Nat.le_refl _) U (.er p x) nest hn hd (fun h=>DS.er_ne (β:=List St) (show DS U pb al L en nest (PR.er p x:PR Unit) from hd) h)
 | ok u ts=>exact (dall2 hL hlen (20 * ts.length+20)).1 _ (Nat.le_refl _) U (.ok () ts) nest hn hd (show pBlk en nest ts≠.er (0,0) 0 from (pBlk_fine (Nat.le_refl _)).ne)
end
def A7d (v:Value):Prop:=∃(s:ByteArray) (aa ra wa ba:Option Addr) (aq ac rq rc wq wc bq bc:Nat) (l c:Int),v=.agg #[.string s,.slice aa aq ac,.slice ra rq rc,.slice wa wq wc,.slice ba bq bc,Zi l,Zi c]
section
variable {α:Type} {w W:World} {pb nest:Nat} {al:Value} {L:List Tok} {en:Nat × Nat} {okv:(Nat→Prop)→α→Value→World→Prop} {P P':Nat→Prop} {G:PR α}
theorem dresD {R:Nat} {a0 a1 a2 a3 a4 a5 a6 z0 z1 z2 z3 z4 z5 z6:Value} (hq:DQ w W pb al L en nest G) (hR:w.heap.size≤R) (hz:RowD W R z0 z1 z2 z3 z4 z5 z6) (hA:A7d (.agg #[a0,a1,a2,a3,a4,a5,a6])) (hok:OkvF okv) (hv:OV okv P G (.agg #[a0,a1,a2,a3,a4,a5,a6]) W) (hP:∀k,P k→P' k∧k≠R) :
  RowD (W.setRow R #[a0,a1,a2,a3,a4,a5,a6]) R a0 a1 a2 a3 a4 a5 a6∧DP A7d w pb al L en nest G (okv P') (.returned (.agg #[a0,a1,a2,a3,a4,a5,a6])) (W.setRow R #[a0,a1,a2,a3,a4,a5,a6]):=by
 have hp:Below w.heap.size W (W.setRow R #[a0,a1,a2,a3,a4,a5,a6]):=setR_below (Below.refl _ _) hR _
 have hq2:=hq.low hp
 exact⟨hz.put _ _ _ _ _ _ _,_,rfl,hA,hq2.ds,hq2.t1,fun x r e=>hok _ _ _ _ _ _ (hv x r e) (fun k hk=>(hP k hk).1) (fun k hk _=>setR_other (hP k hk).2 _)⟩
end
theorem okPr_new {P:Nat→Prop} {W:World} {nm:NmP} {ags rs ws:List NmP} {b:List St} {a r w v:Value} (h1:okNs P ags a W) (h2:okNs P rs r W) (h3:okNs P ws w W) (h4:RwS P W b v):okPr P ⟨nm.1,ags,rs,ws,b,nm.2⟩ (.agg #[.string (S nm.1),a,r,w,v,Zi (nm.2.1:Int),Zi (nm.2.2:Int)]) W:=⟨a,r,w,v,rfl,h1,h2,h3,h4⟩
end Go.Proofs.YtlfooogmoigpfaaGreatDoor
