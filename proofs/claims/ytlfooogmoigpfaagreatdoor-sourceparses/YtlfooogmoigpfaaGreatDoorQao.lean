import Derived.Test.YtlfooogmoigpfaaGreatDoorQan
import Derived.Test.YtlfooogmoigpfaaGreatDoorQaa
set_option maxRecDepth 100000
set_option maxHeartbeats 8000000
namespace Go.Proofs.YtlfooogmoigpfaaGreatDoor
open Go.RowKit Go.Sort Go.Shelf
theorem dname_any {α:Type} (w:World) (pb:Nat) (al:Value) (L:List Tok) (en:Nat × Nat) (nest:Nat) (hlen:L.length≤70000) (s:PR α) (h:DS w pb al L en nest s):Calls Tryz.prog 33 #[Zp pb] w (DP A3 w pb al L en nest (s.bind fun _ ts=>pName en ts) (okN (New noB w.heap.size))):=by
 cases s with
 | er p x=>
  obtain⟨h0,k,h1,h3,h4⟩:=h
  exact dname_er (α:=α) w pb al L en nest p x k h0 h1 h3 h4
 | ok y ts=>
  obtain⟨h0,k,h1,rfl,h3,h4⟩:=h
  rw[PR.bind_ok]
  cases hd:L.drop k with
  | nil=>
   have hk:k=L.length:=by
    have:=congrArg List.length hd
    simp at this
    omega
   have h:=dname_end w pb al L en nest y k h0 h1 hk h3 h4
   rw[hd] at h
   exact h
  | cons t r=>
   by_cases ht:t.1=1
   ·have h:=dname_ok w pb al L en nest hlen y k t r h0 h1 hd ht h3 h4
    have e:pName en (t :: r)=.ok (t.2.1,t.2.2.2) r:=by unfold pName;rw[if_pos (show nxtK (t :: r)=1 from ht)];rfl
    rw[e]
    exact h
   ·have h:=dname_tok w pb al L en nest y k t r h0 h1 hd ht h3 h4
    rw[hd] at h
    have e:pName en (t :: r)=(pBad en (PR.ok y (t :: r)):PR NmP):=by unfold pName;rw[if_neg (show ¬nxtK (t :: r)=1 from ht)];rfl
    rw[e]
    exact h
theorem pkS_ok {α:Type} {W:World} {pb nest:Nat} {al:Value} {L:List Tok} {en:Nat × Nat} {s:PR α} {t:List UInt8} (h:DS W pb al L en nest s) (hL:TksOk L) (ht:t∈kwL) (he:pkS s=t):∃y ts,s=.ok y ts∧nxtT ts=t∧nest≤200:=by
 obtain⟨k,h0,_,_,⟨y,hy⟩,hn,_⟩:=must_next (en:=en) h hL ht he
 exact⟨y,L.drop k,hy,hn,h0⟩
theorem pkS_no {α:Type} {W:World} {pb nest:Nat} {al:Value} {L:List Tok} {en:Nat × Nat} {y:α} {ts:List Tok} {t:List UInt8} (h:DS W pb al L en nest (PR.ok y ts)) (hL:TksOk L) (ht:t∈kwL) (he:¬pkS (PR.ok y ts)=t):¬nxtT ts=t:=by
 obtain⟨_,k,_,rfl,_⟩:=h
 exact fun e=>he (pk_of (DS.drop_ok hL k) ht (kw_ne t ht) e)
theorem pk_of' {α:Type} {W:World} {pb nest:Nat} {al:Value} {L:List Tok} {en:Nat × Nat} {y:α} {ts:List Tok} {t:List UInt8} (h:DS W pb al L en nest (PR.ok y ts)) (hL:TksOk L) (ht:t∈kwL) (he:nxtT ts=t):pkS (PR.ok y ts)=t:=by
 obtain⟨_,k,_,rfl,_⟩:=h
 exact pk_of (DS.drop_ok hL k) ht (kw_ne t ht) he
theorem dwithin_any {pb:Nat} {al:Value} {L:List Tok} {en:Nat × Nat} (hL:TksOk L) (hlen:L.length≤70000) (w:World) (ts:List Tok) (nest:Nat) (hds:DS w pb al L en nest (.ok () ts:PR Unit)):Calls Tryz.prog 115 #[Zp pb] w (DP AStr w pb al L en nest ((pBr en nest [40] [41] ts fun _ r=>pName en r).bind fun n r=>.ok n.1 r) (okT (New noB w.heap.size))):=by
 have hn:nest≤200:=hds.1
 obtain⟨s1,hs1⟩:=nm (pOp en nest [40] ts:PR Unit)
 obtain⟨s2,hs2⟩:=nm (s1.bind fun _ t=>pName en t:PR NmP)
 obtain⟨s3,hs3⟩:=nm (s2.bind fun _ t=>pMust en [41] t:PR Unit)
 obtain⟨G,hG⟩:=nm ((pBr en nest [40] [41] ts fun _ r=>pName en r).bind fun n r=>.ok n.1 r:PR (List UInt8))
 rw[← hG]
 have key:Like s3 G∧(∀X r,G=.ok X r→∃x rx,s2=.ok x rx∧X=x.1):=by
  have h:=like1 (pOp en nest [40] ts) (fun t=>pName en t) (fun t=>pMust en [41] t) (fun x=>x.1)
  have e:G=(pOp en nest [40] ts).bind fun _ t=>(pName en t).bind fun x t=>(pMust en [41] t).bind fun _ t=>.ok x.1 t:=by
   rw[hG,pBr_op]
   simp only[PR.bind_assoc,PR.bind_ok]
  rw[← e,← hs1,← hs2,← hs3] at h
  exact⟨h.1,h.2.1⟩
 clear hG
 have HQ:=Zh (DQ.start hds)
 have HC:=Zh (And.intro HQ.out.lt (Nat.le_refl w.heap.size))
 clear hds
 go_enter Tryz.func115,Tryz.ntmps115
 go_wp2_with fail
 refine (show Calls Tryz.prog 58 #[Zp pb,.string ⟨#[40]⟩] w (fun e w'=>e=.returned (.tuple #[])∧DS w' pb al L en (nest+1) s1∧T1 pb w w') from by rw[hs1];exact dopens_any w pb al L en nest (.ok () ts) [40] hL hlen (by omega) (by decide) HQ.out.ds).mono ?_
 rintro e u1 ⟨rfl,hds,ht⟩
 replace HQ:=Zh (HQ.out.call ht hds)
 replace HC:=Zh (cU HC.out ht.size)
 clear ht hds
 obtain⟨n1,hn1⟩:=nm u1.heap.size
 replace HC:=Zh (cM HC.out hn1)
 go_wp2_with fail
 refine (show Calls Tryz.prog 33 #[Zp pb] u1 (DP A3 u1 pb al L en (nest+1) s2 (okN (New noB u1.heap.size))) from by rw[hs2];exact dname_any u1 pb al L en (nest+1) hlen s1 HQ.out.ds).mono ?_
 rintro e u2 ⟨_,rfl,⟨xs,xl,xm,rfl⟩,hds,ht,hv⟩
 replace HQ:=Zh (HQ.out.call ht hds)
 replace HC:=Zh (cU HC.out ht.size)
 clear ht hds
 obtain⟨u3,hu3⟩:=nm (u2.alloc (.cells #[.string xs,Zi xl,Zi xm] 89))
 obtain⟨BX,hBX⟩:=nm u2.heap.size
 have hb:Below u2.heap.size u2 u3:=by rw[hu3];exact bel_al _ _
 have HX:Hid (Row3 u3 BX (.string xs) (Zi xl) (Zi xm)):=Zh (by rw[hu3,hBX];exact heap_alloc_new _ _ rfl)
 have HVx:Hid (OV okN (fun k=>n1≤k∧k < BX) s2 (.agg #[.string xs,Zi xl,Zi xm]) u3):=Zh (OV.res hv okN_f okN_lt' hb (fun k h1 h2=>⟨by omega,by omega⟩))
 clear hv
 have hc0:=HC.out
 replace HQ:=Zh (HQ.out.bel hb)
 replace HC:=Zh (cA HC.out hBX (blk_lt HX.out))
 clear hb hc0
 go_upto_region 3 with fail
 rw[← hu3,← hBX]
 clear hu3 hBX
 clear hn1
 go_wp2_with fail
 refine (show Calls Tryz.prog 60 #[Zp pb,.string ⟨#[41]⟩] u3 (fun e w'=>e=.returned (.tuple #[])∧DS w' pb al L en nest s3∧T1 pb u3 w') from by rw[hs3,← toU_bind];exact dcloses_any u3 pb al L en nest (toU s2) [41] hL hlen (by omega) (by decide) HQ.out.ds.toU).mono ?_
 rintro e u4 ⟨rfl,hds,ht⟩
 replace HX:=Zh (HX.out.t1 ht (by have:=HC.out;omega))
 replace HVx:=Zh (HVx.out.t1 okN_f ht (fun k (hk:n1≤k∧k < BX)=>by have:=HC.out;omega))
 replace HQ:=Zh (HQ.out.call ht hds)
 replace HC:=Zh (cU HC.out ht.size)
 clear ht hds
 have HF:Hid (DP AStr w pb al L en nest G (okT (New noB w.heap.size)) (.returned (.string xs)) u4):=Zh ⟨_,rfl,⟨_,rfl⟩,HQ.out.ds.like key.1,HQ.out.t1,fun X r e=>by
  obtain⟨x,rx,e2,rfl⟩:=key.2 X r e
  have h:(.agg #[.string xs,Zi xl,Zi xm]:Value)=.agg #[.string (S x.1),Zi (x.2.1:Int),Zi (x.2.2:Int)]:=HVx.out x rx e2
  simp only[Value.agg.injEq,Array.mk.injEq,List.cons.injEq] at h
  exact h.1⟩
 obtain⟨⟨x0,x1,x2⟩,_⟩:=HX.out.cells
 clear HQ HC HX HVx key hs1 hs2 hs3
 go_wp2_with fail
 exact bodyPost_ret (v:=.string xs) (by simp[results,Tryz.results115,go_sem]) rfl HF.out
theorem dunaryEls_any {pb:Nat} {al:Value} {L:List Tok} {en:Nat × Nat} {f:Nat} (hP:DCp pb al L en f) (w:World) (s:PR Unit) (nest:Nat) (hds:DS w pb al L en nest s) (h45:¬pkS s=[45]) (h33:¬pkS s=[33]) (hne:(s.bind fun _ ts=>pPr en f nest ts)≠.er (0,0) 0):Calls Tryz.prog 92 #[Zp pb] w (DP A7 w pb al L en nest (s.bind fun _ ts=>pPr en f nest ts) (okE (New noB w.heap.size))):=by
 obtain⟨G,hG⟩:=nm (s.bind fun _ t=>pPr en f nest t:PR Ex)
 rw[← hG] at hne ⊢
 obtain⟨u1,hu1⟩:=nm (w.alloc (.cells #[Zi 0,Zi 0,Zi 0,Ze,Zn,Zi 0,Zi 0] 66))
 have hb0:Below w.heap.size w u1:=by rw[hu1];exact bel_al _ _
 have HQ:=Zh ((DQ.start hds).bel hb0)
 have HR:Hid (Row7 u1 w.heap.size (Zi 0) (Zi 0) (Zi 0) (Ze) (Zn) (Zi 0) (Zi 0)):=Zh (by rw[hu1];exact heap_alloc_new _ _ rfl)
 have HC:=Zh (cS HQ.out.lt (blk_lt HR.out))
 clear hb0
 have HDs:=Zh hds
 clear hds
 go_enter Tryz.func92,Tryz.ntmps92
 go_upto_region 1 with fail
 rw[← hu1]
 clear hu1
 obtain⟨⟨pl,pc⟩,hp,hsp⟩:=dspot_any u1 pb al L en nest s HQ.out.ds
 go_wp2_with fail
 refine (show Calls Tryz.prog 62 #[Zp pb] u1 (fun e w2=>e=.returned (.agg #[Zi (pl:Int),Zi (pc:Int)])∧Below u1.heap.size u1 w2) from hsp).mono ?_
 rintro e u2 ⟨rfl,hb⟩
 replace HR:=Zh (HR.out.kept hb)
 replace HQ:=Zh (HQ.out.bel hb)
 replace HC:=Zh (cU HC.out hb.size)
 clear hb
 clear hsp
 obtain⟨u3,hu3⟩:=nm (u2.alloc (.cells #[Zi (pl:Int),Zi (pc:Int)] 43))
 obtain⟨BA,hBA⟩:=nm u2.heap.size
 have hb:Below u2.heap.size u2 u3:=by rw[hu3];exact bel_al _ _
 have HA:Hid (RowP u3 BA (Zi (pl:Int)) (Zi (pc:Int))):=Zh (by rw[hu3,hBA];exact heap_alloc_new _ _ rfl)
 have hc0:=HC.out
 replace HR:=Zh (HR.out.kept hb)
 replace HQ:=Zh (HQ.out.bel hb)
 replace HC:=Zh (cA HC.out hBA (blk_lt HA.out))
 clear hb hc0
 go_upto_region 2 with fail
 rw[← hu3,← hBA]
 clear hu3 hBA
 have hpk:=peek_any u3 pb al L en nest s HQ.out.ds
 obtain⟨tx,htx⟩:=nm (S (pkS s))
 rw[← htx] at hpk
 have q45:(tx.toList == [45])=false:=by rw[htx,S_toList];simpa using h45
 have q33:(tx.toList == [33])=false:=by rw[htx,S_toList];simpa using h33
 clear htx h45 h33
 go_wp2_with fail
 refine (show Calls Tryz.prog 56 #[Zp pb] u3 (fun e w2=>e=.returned (.string tx)∧Below u3.heap.size u3 w2) from hpk).mono ?_
 rintro e u4 ⟨rfl,hb⟩
 replace HR:=Zh (HR.out.kept hb)
 replace HA:=Zh (HA.out.kept hb)
 replace HQ:=Zh (HQ.out.bel hb)
 replace HC:=Zh (cU HC.out hb.size)
 clear hb
 clear hpk
 go_wp2_with fail
 refine (show Calls Tryz.prog 93 #[Zp pb] u4 (DP A7 u4 pb al L en nest G (okE (New noB u4.heap.size))) from by rw[hG];exact hP u4 s nest HQ.out.ds (by rw[← hG];exact hne)).mono ?_
 rintro e u5 ⟨_,rfl,⟨xk,xo,xn,xl,xm,xs,xa,xq,xc,rfl⟩,hds,ht,hv⟩
 have hsz:=ht.size
 have hc1:=HC.out
 replace HR:=Zh (HR.out.t1 ht (by have:=HC.out;omega))
 replace HA:=Zh (HA.out.t1 ht (by have:=HC.out;omega))
 replace HQ:=Zh (HQ.out.call ht hds)
 replace HC:=Zh (cU HC.out ht.size)
 clear ht hds
 have hc:=HC.out
 have HF:=Zh (dres7 (P':=New noB w.heap.size) HQ.out (by omega) HR.out ⟨_,_,_,_,_,_,_,_,_,rfl⟩ okE_f (OV.mono (P:=fun k=>w.heap.size < k) hv okE_f okE_lt' (fun k h1 h2=>by omega)) (fun k (hk:w.heap.size < k)=>⟨.inr (by omega),by omega⟩))
 obtain⟨_,f0,f1,f2,f3,f4,f5,f6⟩:=HR.out.cells
 clear HQ HR hc hc1 hv HC hne hG hsz HA hp
 go_wp2_with fail
 obtain⟨⟨d0,d1,d2,d3,d4,d5,d6⟩,_⟩:=HF.out.1.cells
 exact bodyPost_ret (v:=.agg #[Zi xk,Zi xo,Zi xn,.string xs,.slice xa xq xc,Zi xl,Zi xm]) (by simp[results,Tryz.results92,go_sem,d0,d1,d2,d3,d4,d5,d6]) rfl HF.out.2
theorem dunaryNeg_any {pb:Nat} {al:Value} {L:List Tok} {en:Nat × Nat} {f:Nat} (hL:TksOk L) (hlen:L.length≤70000) (hU:DCu pb al L en f) (w:World) (ts:List Tok) (nest:Nat) (hn:nest≤200) (hds:DS w pb al L en nest (.ok () ts:PR Unit)) (hnx:nxtT ts=[45]) (hne:(pOpen en nest ts fun ns r=>(pUn en f ns r).bind fun x r2=>.ok (.mk 6 20 0 [] [x] (nxtP en ts)) r2:PR Ex)≠.er (0,0) 0):Calls Tryz.prog 92 #[Zp pb] w (DP A7 w pb al L en nest (pOpen en nest ts fun ns r=>(pUn en f ns r).bind fun x r2=>.ok (.mk 6 20 0 [] [x] (nxtP en ts)) r2:PR Ex) (okE (New noB w.heap.size))):=by
 obtain⟨s1,hs1⟩:=nm (pOp en nest [45] ts:PR Unit)
 obtain⟨s2,hs2⟩:=nm (s1.bind fun _ t=>pUn en f (nest+1) t:PR Ex)
 obtain⟨G,hG⟩:=nm (pOpen en nest ts fun ns r=>(pUn en f ns r).bind fun x r2=>.ok (.mk 6 20 0 [] [x] (nxtP en ts)) r2:PR Ex)
 rw[← hG] at hne ⊢
 have key:Like (toU s2) G∧(∀X r,G=.ok X r→∃x rx,s2=.ok x rx∧X=.mk 6 20 0 [] [x] (nxtP en ts))∧(∀p e,s2=.er p e→G=.er p e):=by
  have h:=like1 (pOp en nest [45] ts) (fun t=>pUn en f (nest+1) t) (fun t=>.ok () t) (fun x=>Ex.mk 6 20 0 [] [x] (nxtP en ts))
  have e:G=(pOp en nest [45] ts).bind fun _ t=>(pUn en f (nest+1) t).bind fun x t=>(PR.ok () t).bind fun _ t=>.ok (Ex.mk 6 20 0 [] [x] (nxtP en ts)) t:=by
   rw[hG,pOpen_op en nest [45] ts hnx]
   rfl
  rw[← e,← hs1,← hs2] at h
  exact h
 have hne2:s2≠.er (0,0) 0:=fun h=>hne (key.2.2 _ _ h)
 clear hne hG
 obtain⟨n1,hn1⟩:∃n1:Int,n1=((nest+1:Nat):Int):=⟨_,rfl⟩
 have hw:IntKind.i64.wrap (n1 - 1)=(nest:Int):=by rw[IntKind.wrap_i64];omega
 have HN1:=Zh hn1
 clear hn1
 obtain⟨u1,hu1⟩:=nm (w.alloc (.cells #[Zi 0,Zi 0,Zi 0,Ze,Zn,Zi 0,Zi 0] 66))
 have hb0:Below w.heap.size w u1:=by rw[hu1];exact bel_al _ _
 have HQ:=Zh ((DQ.start hds).bel hb0)
 have HR:Hid (Row7 u1 w.heap.size (Zi 0) (Zi 0) (Zi 0) (Ze) (Zn) (Zi 0) (Zi 0)):=Zh (by rw[hu1];exact heap_alloc_new _ _ rfl)
 have HC:=Zh (cS HQ.out.lt (blk_lt HR.out))
 clear hb0
 have HDs:=Zh hds
 clear hds
 go_enter Tryz.func92,Tryz.ntmps92
 go_upto_region 1 with fail
 rw[← hu1]
 clear hu1
 obtain⟨⟨pl,pc⟩,hp,hsp⟩:=dspot_any u1 pb al L en nest (.ok () ts:PR Unit) HQ.out.ds
 go_wp2_with fail
 refine (show Calls Tryz.prog 62 #[Zp pb] u1 (fun e w2=>e=.returned (.agg #[Zi (pl:Int),Zi (pc:Int)])∧Below u1.heap.size u1 w2) from hsp).mono ?_
 rintro e u2 ⟨rfl,hb⟩
 replace HR:=Zh (HR.out.kept hb)
 replace HQ:=Zh (HQ.out.bel hb)
 replace HC:=Zh (cU HC.out hb.size)
 clear hb
 clear hsp
 obtain⟨u3,hu3⟩:=nm (u2.alloc (.cells #[Zi (pl:Int),Zi (pc:Int)] 43))
 obtain⟨BA,hBA⟩:=nm u2.heap.size
 have hb:Below u2.heap.size u2 u3:=by rw[hu3];exact bel_al _ _
 have HA:Hid (RowP u3 BA (Zi (pl:Int)) (Zi (pc:Int))):=Zh (by rw[hu3,hBA];exact heap_alloc_new _ _ rfl)
 have hc0:=HC.out
 replace HR:=Zh (HR.out.kept hb)
 replace HQ:=Zh (HQ.out.bel hb)
 replace HC:=Zh (cA HC.out hBA (blk_lt HA.out))
 clear hb hc0
 go_upto_region 2 with fail
 rw[← hu3,← hBA]
 clear hu3 hBA
 have hpk:=peek_any u3 pb al L en nest (.ok () ts:PR Unit) HQ.out.ds
 obtain⟨tx,htx⟩:=nm (S (pkS (.ok () ts:PR Unit)))
 rw[← htx] at hpk
 have hpe:pkS (.ok () ts:PR Unit)=[45]:=pk_of' HDs.out hL (by decide) hnx
 have q45:(tx.toList == [45])=true:=by rw[htx,S_toList,hpe];rfl
 have q33:(tx.toList == [33])=false:=by rw[htx,S_toList,hpe];rfl
 have HTx:Hid (tx=⟨#[45]⟩):=Zh (by rw[htx,hpe];rfl)
 clear htx
 go_wp2_with fail
 refine (show Calls Tryz.prog 56 #[Zp pb] u3 (fun e w2=>e=.returned (.string tx)∧Below u3.heap.size u3 w2) from hpk).mono ?_
 rintro e u4 ⟨rfl,hb⟩
 replace HR:=Zh (HR.out.kept hb)
 replace HA:=Zh (HA.out.kept hb)
 replace HQ:=Zh (HQ.out.bel hb)
 replace HC:=Zh (cU HC.out hb.size)
 clear hb
 clear hpk
 go_wp2_with fail
 refine (show Calls Tryz.prog 56 #[Zp pb] u4 (fun e w2=>e=.returned (.string ⟨#[45]⟩)∧Below u4.heap.size u4 w2) from by have h:=peek_any u4 pb al L en nest (.ok () ts:PR Unit) HQ.out.ds;rw[hpe] at h;exact h).mono ?_
 rintro e u5 ⟨rfl,hb⟩
 replace HR:=Zh (HR.out.kept hb)
 replace HA:=Zh (HA.out.kept hb)
 replace HQ:=Zh (HQ.out.bel hb)
 replace HC:=Zh (cU HC.out hb.size)
 clear hb
 go_wp2_with fail
 refine (show Calls Tryz.prog 58 #[Zp pb,.string ⟨#[45]⟩] u5 (fun e w'=>e=.returned (.tuple #[])∧DS w' pb al L en (nest+1) s1∧T1 pb u5 w') from by rw[hs1];exact dopens_any u5 pb al L en nest (.ok () ts) [45] hL hlen (by omega) (by decide) HQ.out.ds).mono ?_
 rintro e u6 ⟨rfl,hds,ht⟩
 replace HR:=Zh (HR.out.t1 ht (by have:=HC.out;omega))
 replace HA:=Zh (HA.out.t1 ht (by have:=HC.out;omega))
 replace HQ:=Zh (HQ.out.call ht hds)
 replace HC:=Zh (cU HC.out ht.size)
 clear ht hds
 obtain⟨n9,hn9⟩:=nm u6.heap.size
 replace HC:=Zh (cM HC.out hn9)
 go_wp2_with fail
 refine (show Calls Tryz.prog 92 #[Zp pb] u6 (DP A7 u6 pb al L en (nest+1) s2 (okE (New noB u6.heap.size))) from by rw[hs2];exact hU u6 s1 (nest+1) HQ.out.ds (by rw[← hs2];exact hne2)).mono ?_
 rintro e u7 ⟨_,rfl,⟨xk,xo,xn,xl,xm,xs,xa,xq,xc,rfl⟩,hds,ht,hv⟩
 replace HR:=Zh (HR.out.t1 ht (by have:=HC.out;omega))
 replace HA:=Zh (HA.out.t1 ht (by have:=HC.out;omega))
 replace HQ:=Zh (HQ.out.call ht hds)
 replace HC:=Zh (cU HC.out ht.size)
 clear ht hds
 obtain⟨u8,hu8⟩:=nm (u7.alloc (.cells #[Zi xk,Zi xo,Zi xn,.string xs,.slice xa xq xc,Zi xl,Zi xm] 66))
 obtain⟨BX,hBX⟩:=nm u7.heap.size
 have hb:Below u7.heap.size u7 u8:=by rw[hu8];exact bel_al _ _
 have HX:Hid (Row7 u8 BX (Zi xk) (Zi xo) (Zi xn) (.string xs) (.slice xa xq xc) (Zi xl) (Zi xm)):=Zh (by rw[hu8,hBX];exact heap_alloc_new _ _ rfl)
 have HVx:Hid (OV okE (fun k=>n9≤k∧k < BX) s2 (.agg #[Zi xk,Zi xo,Zi xn,.string xs,.slice xa xq xc,Zi xl,Zi xm]) u8):=Zh (OV.res hv okE_f okE_lt' hb (fun k h1 h2=>⟨by omega,by omega⟩))
 clear hv
 have hc0:=HC.out
 replace HR:=Zh (HR.out.kept hb)
 replace HA:=Zh (HA.out.kept hb)
 replace HQ:=Zh (HQ.out.bel hb)
 replace HC:=Zh (cA HC.out hBX (blk_lt HX.out))
 clear hb hc0
 go_upto_region 11 with fail
 rw[← hu8,← hBX]
 clear hu8 hBX
 clear hn9
 obtain⟨c7,f7⟩:=HQ.out.ds.cell7
 obtain⟨u9,hu9⟩:=nm (u8.setCell ⟨pb,7,none⟩ (Zi (nest:Int)))
 have ht:T1 pb u8 u9:=by rw[hu9];exact T1.set
 have hds:=by have h:=HQ.out.ds.nest nest (fun y ts e=>hn);rw[← hu9] at h;exact h
 rw[← HN1.out] at c7
 replace HR:=Zh (HR.out.t1 ht (by have:=HC.out;omega))
 replace HA:=Zh (HA.out.t1 ht (by have:=HC.out;omega))
 replace HX:=Zh (HX.out.t1 ht (by have:=HC.out;omega))
 replace HVx:=Zh (HVx.out.t1 okE_f ht (fun k (hk:n9≤k∧k < BX)=>by have:=HC.out;omega))
 replace HQ:=Zh (HQ.out.call ht hds)
 replace HC:=Zh (cU HC.out ht.size)
 clear ht hds
 go_upto_region 12 with fail
 rw[← hu9]
 clear hu9 c7 f7
 obtain⟨v9,hv9⟩:=nm (u9.alloc (.cells #[Zi xk,Zi xo,Zi xn,.string xs,.slice xa xq xc,Zi xl,Zi xm] 66))
 have hb:Below u9.heap.size u9 v9:=by rw[hv9];exact bel_al _ _
 have hc:=HC.out
 have hv:OV okE (fun k=>w.heap.size < k) G (.agg #[Zi 6,Zi 20,Zi 0,Ze,.slice (some ⟨u9.heap.size,0,none⟩) 1 1,Zi (pl:Int),Zi (pc:Int)]) v9:=fun X r e=>by
  obtain⟨x,rx,ex,rfl⟩:=key.2.1 X r e
  have hpp:=hp () ts rfl
  rw[← hpp]
  refine⟨_,rfl,?_⟩
  rw[hv9]
  exact ArC_new (okE_cons (okE_mono (HVx.out x rx ex) (fun k hk _=>by obtain⟨h1,h2⟩:=hk;omega)) .nil) (fun k hk=>hk) (by omega)
 have hq9:DQ w v9 pb al L en nest G:=(HQ.out.call (T1.bel (Below.refl _ _)) (HQ.out.ds.toU.like key.1)).bel hb
 obtain⟨⟨x0,x1,x2,x3,x4,x5,x6⟩,_⟩:=HX.out.cells
 obtain⟨a0,a1⟩:=(HA.out.kept hb).cells.1
 have HR9:Hid (Row7 v9 w.heap.size (Zi 0) (Zi 0) (Zi 0) (Ze) (Zn) (Zi 0) (Zi 0)):=Zh (HR.out.kept hb)
 clear HR
 have HR:=Zh HR9.out
 clear HR9
 have HF:=Zh (dres7 (P':=New noB w.heap.size) hq9 (by omega) HR.out ⟨_,_,_,_,_,_,_,_,_,rfl⟩ okE_f hv (fun k (hk:w.heap.size < k)=>⟨.inr (by omega),by omega⟩))
 obtain⟨_,f0,f1,f2,f3,f4,f5,f6⟩:=HR.out.cells
 clear HQ HR hv hq9 hc HC HVx HA HX hb key
 subst hv9
 go_wp2_with fail
 obtain⟨⟨d0,d1,d2,d3,d4,d5,d6⟩,_⟩:=HF.out.1.cells
 exact bodyPost_ret (v:=.agg #[Zi 6,Zi 20,Zi 0,Ze,.slice (some ⟨u9.heap.size,0,none⟩) 1 1,Zi (pl:Int),Zi (pc:Int)]) (by simp[results,Tryz.results92,go_sem,d0,d1,d2,d3,d4,d5,d6]) rfl HF.out.2
theorem dunaryNot_any {pb:Nat} {al:Value} {L:List Tok} {en:Nat × Nat} {f:Nat} (hL:TksOk L) (hlen:L.length≤70000) (hU:DCu pb al L en f) (w:World) (ts:List Tok) (nest:Nat) (hn:nest≤200) (hds:DS w pb al L en nest (.ok () ts:PR Unit)) (hnx:nxtT ts=[33]) (hne:(pOpen en nest ts fun ns r=>(pUn en f ns r).bind fun x r2=>.ok (.mk 6 21 0 [] [x] (nxtP en ts)) r2:PR Ex)≠.er (0,0) 0):Calls Tryz.prog 92 #[Zp pb] w (DP A7 w pb al L en nest (pOpen en nest ts fun ns r=>(pUn en f ns r).bind fun x r2=>.ok (.mk 6 21 0 [] [x] (nxtP en ts)) r2:PR Ex) (okE (New noB w.heap.size))):=by
 obtain⟨s1,hs1⟩:=nm (pOp en nest [33] ts:PR Unit)
 obtain⟨s2,hs2⟩:=nm (s1.bind fun _ t=>pUn en f (nest+1) t:PR Ex)
 obtain⟨G,hG⟩:=nm (pOpen en nest ts fun ns r=>(pUn en f ns r).bind fun x r2=>.ok (.mk 6 21 0 [] [x] (nxtP en ts)) r2:PR Ex)
 rw[← hG] at hne ⊢
 have key:Like (toU s2) G∧(∀X r,G=.ok X r→∃x rx,s2=.ok x rx∧X=.mk 6 21 0 [] [x] (nxtP en ts))∧(∀p e,s2=.er p e→G=.er p e):=by
  have h:=like1 (pOp en nest [33] ts) (fun t=>pUn en f (nest+1) t) (fun t=>.ok () t) (fun x=>Ex.mk 6 21 0 [] [x] (nxtP en ts))
  have e:G=(pOp en nest [33] ts).bind fun _ t=>(pUn en f (nest+1) t).bind fun x t=>(PR.ok () t).bind fun _ t=>.ok (Ex.mk 6 21 0 [] [x] (nxtP en ts)) t:=by
   rw[hG,pOpen_op en nest [33] ts hnx]
   rfl
  rw[← e,← hs1,← hs2] at h
  exact h
 have hne2:s2≠.er (0,0) 0:=fun h=>hne (key.2.2 _ _ h)
 clear hne hG
 obtain⟨n1,hn1⟩:∃n1:Int,n1=((nest+1:Nat):Int):=⟨_,rfl⟩
 have hw:IntKind.i64.wrap (n1 - 1)=(nest:Int):=by rw[IntKind.wrap_i64];omega
 have HN1:=Zh hn1
 clear hn1
 obtain⟨u1,hu1⟩:=nm (w.alloc (.cells #[Zi 0,Zi 0,Zi 0,Ze,Zn,Zi 0,Zi 0] 66))
 have hb0:Below w.heap.size w u1:=by rw[hu1];exact bel_al _ _
 have HQ:=Zh ((DQ.start hds).bel hb0)
 have HR:Hid (Row7 u1 w.heap.size (Zi 0) (Zi 0) (Zi 0) (Ze) (Zn) (Zi 0) (Zi 0)):=Zh (by rw[hu1];exact heap_alloc_new _ _ rfl)
 have HC:=Zh (cS HQ.out.lt (blk_lt HR.out))
 clear hb0
 have HDs:=Zh hds
 clear hds
 go_enter Tryz.func92,Tryz.ntmps92
 go_upto_region 1 with fail
 rw[← hu1]
 clear hu1
 obtain⟨⟨pl,pc⟩,hp,hsp⟩:=dspot_any u1 pb al L en nest (.ok () ts:PR Unit) HQ.out.ds
 go_wp2_with fail
 refine (show Calls Tryz.prog 62 #[Zp pb] u1 (fun e w2=>e=.returned (.agg #[Zi (pl:Int),Zi (pc:Int)])∧Below u1.heap.size u1 w2) from hsp).mono ?_
 rintro e u2 ⟨rfl,hb⟩
 replace HR:=Zh (HR.out.kept hb)
 replace HQ:=Zh (HQ.out.bel hb)
 replace HC:=Zh (cU HC.out hb.size)
 clear hb
 clear hsp
 obtain⟨u3,hu3⟩:=nm (u2.alloc (.cells #[Zi (pl:Int),Zi (pc:Int)] 43))
 obtain⟨BA,hBA⟩:=nm u2.heap.size
 have hb:Below u2.heap.size u2 u3:=by rw[hu3];exact bel_al _ _
 have HA:Hid (RowP u3 BA (Zi (pl:Int)) (Zi (pc:Int))):=Zh (by rw[hu3,hBA];exact heap_alloc_new _ _ rfl)
 have hc0:=HC.out
 replace HR:=Zh (HR.out.kept hb)
 replace HQ:=Zh (HQ.out.bel hb)
 replace HC:=Zh (cA HC.out hBA (blk_lt HA.out))
 clear hb hc0
 go_upto_region 2 with fail
 rw[← hu3,← hBA]
 clear hu3 hBA
 have hpk:=peek_any u3 pb al L en nest (.ok () ts:PR Unit) HQ.out.ds
 obtain⟨tx,htx⟩:=nm (S (pkS (.ok () ts:PR Unit)))
 rw[← htx] at hpk
 have hpe:pkS (.ok () ts:PR Unit)=[33]:=pk_of' HDs.out hL (by decide) hnx
 have q45:(tx.toList == [45])=false:=by rw[htx,S_toList,hpe];rfl
 have q33:(tx.toList == [33])=true:=by rw[htx,S_toList,hpe];rfl
 have HTx:Hid (tx=⟨#[33]⟩):=Zh (by rw[htx,hpe];rfl)
 clear htx
 go_wp2_with fail
 refine (show Calls Tryz.prog 56 #[Zp pb] u3 (fun e w2=>e=.returned (.string tx)∧Below u3.heap.size u3 w2) from hpk).mono ?_
 rintro e u4 ⟨rfl,hb⟩
 replace HR:=Zh (HR.out.kept hb)
 replace HA:=Zh (HA.out.kept hb)
 replace HQ:=Zh (HQ.out.bel hb)
 replace HC:=Zh (cU HC.out hb.size)
 clear hb
 clear hpk
 go_wp2_with fail
 refine (show Calls Tryz.prog 56 #[Zp pb] u4 (fun e w2=>e=.returned (.string ⟨#[33]⟩)∧Below u4.heap.size u4 w2) from by have h:=peek_any u4 pb al L en nest (.ok () ts:PR Unit) HQ.out.ds;rw[hpe] at h;exact h).mono ?_
 rintro e u5 ⟨rfl,hb⟩
 replace HR:=Zh (HR.out.kept hb)
 replace HA:=Zh (HA.out.kept hb)
 replace HQ:=Zh (HQ.out.bel hb)
 replace HC:=Zh (cU HC.out hb.size)
 clear hb
 go_wp2_with fail
 refine (show Calls Tryz.prog 58 #[Zp pb,.string ⟨#[33]⟩] u5 (fun e w'=>e=.returned (.tuple #[])∧DS w' pb al L en (nest+1) s1∧T1 pb u5 w') from by rw[hs1];exact dopens_any u5 pb al L en nest (.ok () ts) [33] hL hlen (by omega) (by decide) HQ.out.ds).mono ?_
 rintro e u6 ⟨rfl,hds,ht⟩
 replace HR:=Zh (HR.out.t1 ht (by have:=HC.out;omega))
 replace HA:=Zh (HA.out.t1 ht (by have:=HC.out;omega))
 replace HQ:=Zh (HQ.out.call ht hds)
 replace HC:=Zh (cU HC.out ht.size)
 clear ht hds
 obtain⟨n9,hn9⟩:=nm u6.heap.size
 replace HC:=Zh (cM HC.out hn9)
 go_wp2_with fail
 refine (show Calls Tryz.prog 92 #[Zp pb] u6 (DP A7 u6 pb al L en (nest+1) s2 (okE (New noB u6.heap.size))) from by rw[hs2];exact hU u6 s1 (nest+1) HQ.out.ds (by rw[← hs2];exact hne2)).mono ?_
 rintro e u7 ⟨_,rfl,⟨xk,xo,xn,xl,xm,xs,xa,xq,xc,rfl⟩,hds,ht,hv⟩
 replace HR:=Zh (HR.out.t1 ht (by have:=HC.out;omega))
 replace HA:=Zh (HA.out.t1 ht (by have:=HC.out;omega))
 replace HQ:=Zh (HQ.out.call ht hds)
 replace HC:=Zh (cU HC.out ht.size)
 clear ht hds
 obtain⟨u8,hu8⟩:=nm (u7.alloc (.cells #[Zi xk,Zi xo,Zi xn,.string xs,.slice xa xq xc,Zi xl,Zi xm] 66))
 obtain⟨BX,hBX⟩:=nm u7.heap.size
 have hb:Below u7.heap.size u7 u8:=by rw[hu8];exact bel_al _ _
 have HX:Hid (Row7 u8 BX (Zi xk) (Zi xo) (Zi xn) (.string xs) (.slice xa xq xc) (Zi xl) (Zi xm)):=Zh (by rw[hu8,hBX];exact heap_alloc_new _ _ rfl)
 have HVx:Hid (OV okE (fun k=>n9≤k∧k < BX) s2 (.agg #[Zi xk,Zi xo,Zi xn,.string xs,.slice xa xq xc,Zi xl,Zi xm]) u8):=Zh (OV.res hv okE_f okE_lt' hb (fun k h1 h2=>⟨by omega,by omega⟩))
 clear hv
 have hc0:=HC.out
 replace HR:=Zh (HR.out.kept hb)
 replace HA:=Zh (HA.out.kept hb)
 replace HQ:=Zh (HQ.out.bel hb)
 replace HC:=Zh (cA HC.out hBX (blk_lt HX.out))
 clear hb hc0
 go_upto_region 11 with fail
 rw[← hu8,← hBX]
 clear hu8 hBX
 clear hn9
 obtain⟨c7,f7⟩:=HQ.out.ds.cell7
 obtain⟨u9,hu9⟩:=nm (u8.setCell ⟨pb,7,none⟩ (Zi (nest:Int)))
 have ht:T1 pb u8 u9:=by rw[hu9];exact T1.set
 have hds:=by have h:=HQ.out.ds.nest nest (fun y ts e=>hn);rw[← hu9] at h;exact h
 rw[← HN1.out] at c7
 replace HR:=Zh (HR.out.t1 ht (by have:=HC.out;omega))
 replace HA:=Zh (HA.out.t1 ht (by have:=HC.out;omega))
 replace HX:=Zh (HX.out.t1 ht (by have:=HC.out;omega))
 replace HVx:=Zh (HVx.out.t1 okE_f ht (fun k (hk:n9≤k∧k < BX)=>by have:=HC.out;omega))
 replace HQ:=Zh (HQ.out.call ht hds)
 replace HC:=Zh (cU HC.out ht.size)
 clear ht hds
 go_upto_region 12 with fail
 rw[← hu9]
 clear hu9 c7 f7
 obtain⟨v9,hv9⟩:=nm (u9.alloc (.cells #[Zi xk,Zi xo,Zi xn,.string xs,.slice xa xq xc,Zi xl,Zi xm] 66))
 have hb:Below u9.heap.size u9 v9:=by rw[hv9];exact bel_al _ _
 have hc:=HC.out
 have hv:OV okE (fun k=>w.heap.size < k) G (.agg #[Zi 6,Zi 21,Zi 0,Ze,.slice (some ⟨u9.heap.size,0,none⟩) 1 1,Zi (pl:Int),Zi (pc:Int)]) v9:=fun X r e=>by
  obtain⟨x,rx,ex,rfl⟩:=key.2.1 X r e
  have hpp:=hp () ts rfl
  rw[← hpp]
  refine⟨_,rfl,?_⟩
  rw[hv9]
  exact ArC_new (okE_cons (okE_mono (HVx.out x rx ex) (fun k hk _=>by obtain⟨h1,h2⟩:=hk;omega)) .nil) (fun k hk=>hk) (by omega)
 have hq9:DQ w v9 pb al L en nest G:=(HQ.out.call (T1.bel (Below.refl _ _)) (HQ.out.ds.toU.like key.1)).bel hb
 obtain⟨⟨x0,x1,x2,x3,x4,x5,x6⟩,_⟩:=HX.out.cells
 obtain⟨a0,a1⟩:=(HA.out.kept hb).cells.1
 have HR9:Hid (Row7 v9 w.heap.size (Zi 0) (Zi 0) (Zi 0) (Ze) (Zn) (Zi 0) (Zi 0)):=Zh (HR.out.kept hb)
 clear HR
 have HR:=Zh HR9.out
 clear HR9
 have HF:=Zh (dres7 (P':=New noB w.heap.size) hq9 (by omega) HR.out ⟨_,_,_,_,_,_,_,_,_,rfl⟩ okE_f hv (fun k (hk:w.heap.size < k)=>⟨.inr (by omega),by omega⟩))
 obtain⟨_,f0,f1,f2,f3,f4,f5,f6⟩:=HR.out.cells
 clear HQ HR hv hq9 hc HC HVx HA HX hb key
 subst hv9
 go_wp2_with fail
 obtain⟨⟨d0,d1,d2,d3,d4,d5,d6⟩,_⟩:=HF.out.1.cells
 exact bodyPost_ret (v:=.agg #[Zi 6,Zi 21,Zi 0,Ze,.slice (some ⟨u9.heap.size,0,none⟩) 1 1,Zi (pl:Int),Zi (pc:Int)]) (by simp[results,Tryz.results92,go_sem,d0,d1,d2,d3,d4,d5,d6]) rfl HF.out.2
theorem dunary_any {pb:Nat} {al:Value} {L:List Tok} {en:Nat × Nat} {f:Nat} (hL:TksOk L) (hlen:L.length≤70000) (hU:DCu pb al L en f) (hP:DCp pb al L en f):DCu pb al L en (f+1):=by
 intro w s nest hds hne
 by_cases h45:pkS s=[45]
 ·obtain⟨u,ts,rfl,hnx,hn⟩:=pkS_ok hds hL (by decide) h45
  have e:pUn en (f+1) nest ts=pOpen en nest ts fun ns r=>(pUn en f ns r).bind fun x r2=>.ok (.mk 6 20 0 [] [x] (nxtP en ts)) r2:=by simp only[pUn];rw[if_pos hnx]
  rw[PR.bind_ok,e] at hne ⊢
  exact dunaryNeg_any hL hlen hU w ts nest hn hds hnx hne
 ·by_cases h33:pkS s=[33]
  ·obtain⟨u,ts,rfl,hnx,hn⟩:=pkS_ok hds hL (by decide) h33
   have e:pUn en (f+1) nest ts=pOpen en nest ts fun ns r=>(pUn en f ns r).bind fun x r2=>.ok (.mk 6 21 0 [] [x] (nxtP en ts)) r2:=by simp only[pUn];rw[if_neg (pkS_no hds hL (by decide) h45),if_pos hnx]
   rw[PR.bind_ok,e] at hne ⊢
   exact dunaryNot_any hL hlen hU w ts nest hn hds hnx hne
  ·have e:(s.bind fun _ ts=>pUn en (f+1) nest ts)=s.bind fun _ ts=>pPr en f nest ts:=by
    cases s with
    | er p x=>rfl
    | ok y ts=>
     rw[PR.bind_ok,PR.bind_ok]
     simp only[pUn]
     rw[if_neg (pkS_no hds hL (by decide) h45),if_neg (pkS_no hds hL (by decide) h33)]
   rw[e] at hne ⊢
   exact dunaryEls_any hP w s nest hds h45 h33 hne
theorem dchoiceno_any {pb:Nat} {al:Value} {L:List Tok} {en:Nat × Nat} {f:Nat} (hX:DCx pb al L en f) (w:World) (ts:List Tok) (nest:Nat) (hds:DS w pb al L en nest (.ok () ts:PR Unit)) (hL:TksOk L) (hne:pWh en (f+1) nest ts≠.er (0,0) 0) (hno:¬pkS (pJo en f 1 nest ts)=[63]):Calls Tryz.prog 91 #[Zp pb] w (DP A7 w pb al L en nest (pWh en (f+1) nest ts) (okE (New noB w.heap.size))):=by
 have hn:nest≤200:=hds.1
 obtain⟨s1,hs1⟩:=nm (pJo en f 1 nest ts:PR Ex)
 rw[pWh_eq] at hne ⊢
 rw[← hs1] at hno hne ⊢
 have hne1:s1≠.er (0,0) 0:=fun h=>hne (by rw[h];rfl)
 have HG:Hid (∀U,DS U pb al L en nest s1→(s1.bind fun x r=>if nxtT r=[63] then pCh en f nest x r else .ok x r)=s1):=Zh fun U hU=>by
  cases s1 with
  | er p e=>rfl
  | ok x r=>rw[PR.bind_ok,if_neg (pkS_no hU hL (by decide) hno)]
 obtain⟨G,hG⟩:=nm ((s1.bind fun x r=>if nxtT r=[63] then pCh en f nest x r else .ok x r))
 rw[← hG]
 clear hne
 obtain⟨u1,hu1⟩:=nm (w.alloc (.cells #[Zi 0,Zi 0,Zi 0,Ze,Zn,Zi 0,Zi 0] 66))
 have hb0:Below w.heap.size w u1:=by rw[hu1];exact bel_al _ _
 have HQ:=Zh ((DQ.start hds).bel hb0)
 have HR:Hid (Row7 u1 w.heap.size (Zi 0) (Zi 0) (Zi 0) (Ze) (Zn) (Zi 0) (Zi 0)):=Zh (by rw[hu1];exact heap_alloc_new _ _ rfl)
 have HC:=Zh (cS HQ.out.lt (blk_lt HR.out))
 clear hb0
 clear hds
 go_enter Tryz.func91,Tryz.ntmps91
 go_upto_region 1 with fail
 rw[← hu1]
 clear hu1
 obtain⟨n2,hn2⟩:=nm u1.heap.size
 replace HC:=Zh (cM HC.out hn2)
 go_wp2_with fail
 refine (show Calls Tryz.prog 57 #[Zp pb,Zi 2] u1 (DP A7 u1 pb al L en nest s1 (okE (New noB u1.heap.size))) from by rw[hs1];exact hX u1 (.ok () ts) nest 2 (by omega) (by omega) HQ.out.ds (by rw[PR.bind_ok];show pJo en f 1 nest ts≠_;rw[← hs1];exact hne1)).mono ?_
 rintro e u2 ⟨_,rfl,⟨xk,xo,xn,xl,xm,xs,xa,xq,xc,rfl⟩,hds,ht,hv⟩
 replace HR:=Zh (HR.out.t1 ht (by have:=HC.out;omega))
 replace HQ:=Zh (HQ.out.call ht hds)
 replace HC:=Zh (cU HC.out ht.size)
 clear ht hds
 obtain⟨u3,hu3⟩:=nm (u2.alloc (.cells #[Zi xk,Zi xo,Zi xn,.string xs,.slice xa xq xc,Zi xl,Zi xm] 66))
 obtain⟨BX,hBX⟩:=nm u2.heap.size
 have hb:Below u2.heap.size u2 u3:=by rw[hu3];exact bel_al _ _
 have HX:Hid (Row7 u3 BX (Zi xk) (Zi xo) (Zi xn) (.string xs) (.slice xa xq xc) (Zi xl) (Zi xm)):=Zh (by rw[hu3,hBX];exact heap_alloc_new _ _ rfl)
 have HVx:Hid (OV okE (fun k=>n2≤k∧k < BX) s1 (.agg #[Zi xk,Zi xo,Zi xn,.string xs,.slice xa xq xc,Zi xl,Zi xm]) u3):=Zh (OV.res hv okE_f okE_lt' hb (fun k h1 h2=>⟨by omega,by omega⟩))
 clear hv
 have hc0:=HC.out
 replace HR:=Zh (HR.out.kept hb)
 replace HQ:=Zh (HQ.out.bel hb)
 replace HC:=Zh (cA HC.out hBX (blk_lt HX.out))
 clear hb hc0
 go_upto_region 2 with fail
 rw[← hu3,← hBX]
 clear hu3 hBX
 clear hn2
 obtain⟨⟨pl,pc⟩,hp,hsp⟩:=dspot_any u3 pb al L en nest s1 HQ.out.ds
 go_wp2_with fail
 refine (show Calls Tryz.prog 62 #[Zp pb] u3 (fun e w2=>e=.returned (.agg #[Zi (pl:Int),Zi (pc:Int)])∧Below u3.heap.size u3 w2) from hsp).mono ?_
 rintro e u4 ⟨rfl,hb⟩
 replace HR:=Zh (HR.out.kept hb)
 replace HX:=Zh (HX.out.kept hb)
 replace HVx:=Zh (HVx.out.bel okE_f hb)
 replace HQ:=Zh (HQ.out.bel hb)
 replace HC:=Zh (cU HC.out hb.size)
 clear hb
 clear hsp
 obtain⟨u5,hu5⟩:=nm (u4.alloc (.cells #[Zi (pl:Int),Zi (pc:Int)] 43))
 obtain⟨BA,hBA⟩:=nm u4.heap.size
 have hb:Below u4.heap.size u4 u5:=by rw[hu5];exact bel_al _ _
 have HA:Hid (RowP u5 BA (Zi (pl:Int)) (Zi (pc:Int))):=Zh (by rw[hu5,hBA];exact heap_alloc_new _ _ rfl)
 have hc0:=HC.out
 replace HR:=Zh (HR.out.kept hb)
 replace HX:=Zh (HX.out.kept hb)
 replace HVx:=Zh (HVx.out.bel okE_f hb)
 replace HQ:=Zh (HQ.out.bel hb)
 replace HC:=Zh (cA HC.out hBA (blk_lt HA.out))
 clear hb hc0
 go_upto_region 3 with fail
 rw[← hu5,← hBA]
 clear hu5 hBA
 have hpk:=peek_any u5 pb al L en nest s1 HQ.out.ds
 obtain⟨tx,htx⟩:=nm (S (pkS s1))
 rw[← htx] at hpk
 have q63:(tx.toList == [63])=false:=by rw[htx,S_toList];simpa using hno
 clear htx
 go_wp2_with fail
 refine (show Calls Tryz.prog 56 #[Zp pb] u5 (fun e w2=>e=.returned (.string tx)∧Below u5.heap.size u5 w2) from hpk).mono ?_
 rintro e u6 ⟨rfl,hb⟩
 replace HR:=Zh (HR.out.kept hb)
 replace HX:=Zh (HX.out.kept hb)
 replace HA:=Zh (HA.out.kept hb)
 replace HVx:=Zh (HVx.out.bel okE_f hb)
 replace HQ:=Zh (HQ.out.bel hb)
 replace HC:=Zh (cU HC.out hb.size)
 clear hb
 have hc:=HC.out
 rw[HG.out _ HQ.out.ds] at hG
 subst hG
 clear HG
 obtain⟨⟨x0,x1,x2,x3,x4,x5,x6⟩,_⟩:=HX.out.cells
 have HF:=Zh (dres7 (P':=New noB w.heap.size) HQ.out (by omega) HR.out ⟨_,_,_,_,_,_,_,_,_,rfl⟩ okE_f (HVx.out.keep (P':=fun k=>w.heap.size < k) okE_f (fun k hk=>by obtain⟨h1,h2⟩:=hk;omega) (fun _ _ _=>rfl)) (fun k (hk:w.heap.size < k)=>⟨.inr (by omega),by omega⟩))
 obtain⟨_,f0,f1,f2,f3,f4,f5,f6⟩:=HR.out.cells
 clear HQ HR hc HC HX HVx HA hp hpk hs1 hno hne1 hn
 go_wp2_with fail
 obtain⟨⟨d0,d1,d2,d3,d4,d5,d6⟩,_⟩:=HF.out.1.cells
 exact bodyPost_ret (v:=.agg #[Zi xk,Zi xo,Zi xn,.string xs,.slice xa xq xc,Zi xl,Zi xm]) (by simp[results,Tryz.results91,go_sem,d0,d1,d2,d3,d4,d5,d6]) rfl HF.out.2
theorem dchoiceyes_any {pb:Nat} {al:Value} {L:List Tok} {en:Nat × Nat} {f:Nat} (hX:DCx pb al L en f) (w:World) (ts:List Tok) (nest:Nat) (hds:DS w pb al L en nest (.ok () ts:PR Unit)) (hlen:L.length≤70000) (hL:TksOk L) (hW:DCw pb al L en f) (x0:Ex) (r0:List Tok) (hx:pJo en f 1 nest ts=.ok x0 r0) (hnx:nxtT r0=[63]) (hne:pCh en f nest x0 r0≠.er (0,0) 0):Calls Tryz.prog 91 #[Zp pb] w (DP A7 w pb al L en nest (pCh en f nest x0 r0) (okE (New noB w.heap.size))):=by
 have hn:nest≤200:=hds.1
 obtain⟨s1,hs1⟩:=nm (pJo en f 1 nest ts:PR Ex)
 rw[← hs1] at hx
 obtain⟨s2,hs2⟩:=nm ((toU s1).bind fun _ t=>pOp en nest [63] t:PR Unit)
 obtain⟨s3,hs3⟩:=nm (s2.bind fun _ t=>pWh en f (nest+1) t:PR Ex)
 obtain⟨s4,hs4⟩:=nm (s3.bind fun _ t=>pMust en [58] t:PR Unit)
 obtain⟨s5,hs5⟩:=nm (s4.bind fun _ t=>pWh en f (nest+1) t:PR Ex)
 obtain⟨G,hG⟩:=nm (pCh en f nest x0 r0:PR Ex)
 rw[← hG] at hne ⊢
 have key:Like (toU s5) G∧(∀X r,G=.ok X r→∃y ry z rz,s3=.ok y ry∧s5=.ok z rz∧X=.mk 10 0 0 [] [x0,y,z] (nxtP en r0))∧(∀p e,s3=.er p e→G=.er p e)∧(∀p e,s5=.er p e→G=.er p e):=by
  have h:=like2 (pOp en nest [63] r0) (fun t=>pWh en f (nest+1) t) (fun t=>pMust en [58] t) (fun t=>pWh en f (nest+1) t) (fun t=>.ok () t) (fun y z=>Ex.mk 10 0 0 [] [x0,y,z] (nxtP en r0))
  have e:G=(pOp en nest [63] r0).bind fun _ t=>(pWh en f (nest+1) t).bind fun y t=>(pMust en [58] t).bind fun _ t=>(pWh en f (nest+1) t).bind fun z t=>(PR.ok () t).bind fun _ t=>.ok (Ex.mk 10 0 0 [] [x0,y,z] (nxtP en r0)) t:=by
   rw[hG]
   unfold pCh
   rw[pOpen_op en nest [63] r0 hnx]
   rfl
  have e2:s2=pOp en nest [63] r0:=by rw[hs2,hx];rfl
  rw[← e,← e2,← hs3,← hs4,← hs5] at h
  exact h
 have hne3:s3≠.er (0,0) 0:=fun h=>hne (key.2.2.1 _ _ h)
 have hne5:s5≠.er (0,0) 0:=fun h=>hne (key.2.2.2 _ _ h)
 have hne1:s1≠.er (0,0) 0:=by rw[hx];exact fun h=>(by cases h)
 clear hne hG
 obtain⟨n1,hn1⟩:∃n1:Int,n1=((nest+1:Nat):Int):=⟨_,rfl⟩
 have hw:IntKind.i64.wrap (n1 - 1)=(nest:Int):=by rw[IntKind.wrap_i64];omega
 have HN1:=Zh hn1
 clear hn1
 obtain⟨u1,hu1⟩:=nm (w.alloc (.cells #[Zi 0,Zi 0,Zi 0,Ze,Zn,Zi 0,Zi 0] 66))
 have hb0:Below w.heap.size w u1:=by rw[hu1];exact bel_al _ _
 have HQ:=Zh ((DQ.start hds).bel hb0)
 have HR:Hid (Row7 u1 w.heap.size (Zi 0) (Zi 0) (Zi 0) (Ze) (Zn) (Zi 0) (Zi 0)):=Zh (by rw[hu1];exact heap_alloc_new _ _ rfl)
 have HC:=Zh (cS HQ.out.lt (blk_lt HR.out))
 clear hb0
 clear hds
 go_enter Tryz.func91,Tryz.ntmps91
 go_upto_region 1 with fail
 rw[← hu1]
 clear hu1
 obtain⟨n2,hn2⟩:=nm u1.heap.size
 replace HC:=Zh (cM HC.out hn2)
 go_wp2_with fail
 refine (show Calls Tryz.prog 57 #[Zp pb,Zi 2] u1 (DP A7 u1 pb al L en nest s1 (okE (New noB u1.heap.size))) from by rw[hs1];exact hX u1 (.ok () ts) nest 2 (by omega) (by omega) HQ.out.ds (by rw[PR.bind_ok];show pJo en f 1 nest ts≠_;rw[← hs1];exact hne1)).mono ?_
 rintro e u2 ⟨_,rfl,⟨xk,xo,xn,xl,xm,xs,xa,xq,xc,rfl⟩,hds,ht,hv⟩
 replace HR:=Zh (HR.out.t1 ht (by have:=HC.out;omega))
 replace HQ:=Zh (HQ.out.call ht hds)
 replace HC:=Zh (cU HC.out ht.size)
 clear ht hds
 obtain⟨u3,hu3⟩:=nm (u2.alloc (.cells #[Zi xk,Zi xo,Zi xn,.string xs,.slice xa xq xc,Zi xl,Zi xm] 66))
 obtain⟨BX,hBX⟩:=nm u2.heap.size
 have hb:Below u2.heap.size u2 u3:=by rw[hu3];exact bel_al _ _
 have HX:Hid (Row7 u3 BX (Zi xk) (Zi xo) (Zi xn) (.string xs) (.slice xa xq xc) (Zi xl) (Zi xm)):=Zh (by rw[hu3,hBX];exact heap_alloc_new _ _ rfl)
 have HVx:Hid (OV okE (fun k=>n2≤k∧k < BX) s1 (.agg #[Zi xk,Zi xo,Zi xn,.string xs,.slice xa xq xc,Zi xl,Zi xm]) u3):=Zh (OV.res hv okE_f okE_lt' hb (fun k h1 h2=>⟨by omega,by omega⟩))
 clear hv
 have hc0:=HC.out
 replace HR:=Zh (HR.out.kept hb)
 replace HQ:=Zh (HQ.out.bel hb)
 replace HC:=Zh (cA HC.out hBX (blk_lt HX.out))
 clear hb hc0
 go_upto_region 2 with fail
 rw[← hu3,← hBX]
 clear hu3 hBX
 clear hn2
 obtain⟨⟨pl,pc⟩,hp,hsp⟩:=dspot_any u3 pb al L en nest s1 HQ.out.ds
 go_wp2_with fail
 refine (show Calls Tryz.prog 62 #[Zp pb] u3 (fun e w2=>e=.returned (.agg #[Zi (pl:Int),Zi (pc:Int)])∧Below u3.heap.size u3 w2) from hsp).mono ?_
 rintro e u4 ⟨rfl,hb⟩
 replace HR:=Zh (HR.out.kept hb)
 replace HX:=Zh (HX.out.kept hb)
 replace HVx:=Zh (HVx.out.bel okE_f hb)
 replace HQ:=Zh (HQ.out.bel hb)
 replace HC:=Zh (cU HC.out hb.size)
 clear hb
 clear hsp
 obtain⟨u5,hu5⟩:=nm (u4.alloc (.cells #[Zi (pl:Int),Zi (pc:Int)] 43))
 obtain⟨BA,hBA⟩:=nm u4.heap.size
 have hb:Below u4.heap.size u4 u5:=by rw[hu5];exact bel_al _ _
 have HA:Hid (RowP u5 BA (Zi (pl:Int)) (Zi (pc:Int))):=Zh (by rw[hu5,hBA];exact heap_alloc_new _ _ rfl)
 have hc0:=HC.out
 replace HR:=Zh (HR.out.kept hb)
 replace HX:=Zh (HX.out.kept hb)
 replace HVx:=Zh (HVx.out.bel okE_f hb)
 replace HQ:=Zh (HQ.out.bel hb)
 replace HC:=Zh (cA HC.out hBA (blk_lt HA.out))
 clear hb hc0
 go_upto_region 3 with fail
 rw[← hu5,← hBA]
 clear hu5 hBA
 have hpk:=peek_any u5 pb al L en nest s1 HQ.out.ds
 obtain⟨tx,htx⟩:=nm (S (pkS s1))
 rw[← htx] at hpk
 have q63:(tx.toList == [63])=true:=by rw[htx,hx,pk_of' (hx▸HQ.out.ds) hL (by decide) hnx,S_toList];rfl
 clear htx
 go_wp2_with fail
 refine (show Calls Tryz.prog 56 #[Zp pb] u5 (fun e w2=>e=.returned (.string tx)∧Below u5.heap.size u5 w2) from hpk).mono ?_
 rintro e u6 ⟨rfl,hb⟩
 replace HR:=Zh (HR.out.kept hb)
 replace HX:=Zh (HX.out.kept hb)
 replace HA:=Zh (HA.out.kept hb)
 replace HVx:=Zh (HVx.out.bel okE_f hb)
 replace HQ:=Zh (HQ.out.bel hb)
 replace HC:=Zh (cU HC.out hb.size)
 clear hb
 clear hpk
 go_wp2_with fail
 refine (show Calls Tryz.prog 58 #[Zp pb,.string ⟨#[63]⟩] u6 (fun e w'=>e=.returned (.tuple #[])∧DS w' pb al L en (nest+1) s2∧T1 pb u6 w') from by rw[hs2];exact dopens_any u6 pb al L en nest (toU s1) [63] hL hlen (by omega) (by decide) HQ.out.ds.toU).mono ?_
 rintro e u7 ⟨rfl,hds,ht⟩
 replace HR:=Zh (HR.out.t1 ht (by have:=HC.out;omega))
 replace HX:=Zh (HX.out.t1 ht (by have:=HC.out;omega))
 replace HA:=Zh (HA.out.t1 ht (by have:=HC.out;omega))
 replace HVx:=Zh (HVx.out.t1 okE_f ht (fun k (hk:n2≤k∧k < BX)=>by have:=HC.out;omega))
 replace HQ:=Zh (HQ.out.call ht hds)
 replace HC:=Zh (cU HC.out ht.size)
 clear ht hds
 obtain⟨n3,hn3⟩:=nm u7.heap.size
 replace HC:=Zh (cM HC.out hn3)
 go_wp2_with fail
 refine (show Calls Tryz.prog 57 #[Zp pb,Zi 1] u7 (DP A7 u7 pb al L en (nest+1) s3 (okE (New noB u7.heap.size))) from by rw[hs3];exact hW u7 s2 (nest+1) HQ.out.ds (by rw[← hs3];exact hne3)).mono ?_
 rintro e u8 ⟨_,rfl,⟨yk,yo,yn,yl,ym,ys,ya,yq,yc,rfl⟩,hds,ht,hv⟩
 replace HR:=Zh (HR.out.t1 ht (by have:=HC.out;omega))
 replace HX:=Zh (HX.out.t1 ht (by have:=HC.out;omega))
 replace HA:=Zh (HA.out.t1 ht (by have:=HC.out;omega))
 replace HVx:=Zh (HVx.out.t1 okE_f ht (fun k (hk:n2≤k∧k < BX)=>by have:=HC.out;omega))
 replace HQ:=Zh (HQ.out.call ht hds)
 replace HC:=Zh (cU HC.out ht.size)
 clear ht hds
 obtain⟨u9,hu9⟩:=nm (u8.alloc (.cells #[Zi yk,Zi yo,Zi yn,.string ys,.slice ya yq yc,Zi yl,Zi ym] 66))
 obtain⟨BY,hBY⟩:=nm u8.heap.size
 have hb:Below u8.heap.size u8 u9:=by rw[hu9];exact bel_al _ _
 have HY:Hid (Row7 u9 BY (Zi yk) (Zi yo) (Zi yn) (.string ys) (.slice ya yq yc) (Zi yl) (Zi ym)):=Zh (by rw[hu9,hBY];exact heap_alloc_new _ _ rfl)
 have HVy:Hid (OV okE (fun k=>n3≤k∧k < BY) s3 (.agg #[Zi yk,Zi yo,Zi yn,.string ys,.slice ya yq yc,Zi yl,Zi ym]) u9):=Zh (OV.res hv okE_f okE_lt' hb (fun k h1 h2=>⟨by omega,by omega⟩))
 clear hv
 have hc0:=HC.out
 replace HR:=Zh (HR.out.kept hb)
 replace HX:=Zh (HX.out.kept hb)
 replace HA:=Zh (HA.out.kept hb)
 replace HVx:=Zh (HVx.out.bel okE_f hb)
 replace HQ:=Zh (HQ.out.bel hb)
 replace HC:=Zh (cA HC.out hBY (blk_lt HY.out))
 clear hb hc0
 go_upto_region 7 with fail
 rw[← hu9,← hBY]
 clear hu9 hBY
 clear hn3
 go_wp2_with fail
 refine (show Calls Tryz.prog 35 #[Zp pb,.string ⟨#[58]⟩] u9 (fun e w'=>e=.returned (.tuple #[])∧DS w' pb al L en (nest+1) s4∧T1 pb u9 w') from by rw[hs4];exact dtake_any u9 pb al L en (nest+1) s3 [58] hL hlen (by decide) HQ.out.ds).mono ?_
 rintro e u10 ⟨rfl,hds,ht⟩
 replace HR:=Zh (HR.out.t1 ht (by have:=HC.out;omega))
 replace HX:=Zh (HX.out.t1 ht (by have:=HC.out;omega))
 replace HA:=Zh (HA.out.t1 ht (by have:=HC.out;omega))
 replace HY:=Zh (HY.out.t1 ht (by have:=HC.out;omega))
 replace HVx:=Zh (HVx.out.t1 okE_f ht (fun k (hk:n2≤k∧k < BX)=>by have:=HC.out;omega))
 replace HVy:=Zh (HVy.out.t1 okE_f ht (fun k (hk:n3≤k∧k < BY)=>by have:=HC.out;omega))
 replace HQ:=Zh (HQ.out.call ht hds)
 replace HC:=Zh (cU HC.out ht.size)
 clear ht hds
 obtain⟨n4,hn4⟩:=nm u10.heap.size
 replace HC:=Zh (cM HC.out hn4)
 go_wp2_with fail
 refine (show Calls Tryz.prog 57 #[Zp pb,Zi 1] u10 (DP A7 u10 pb al L en (nest+1) s5 (okE (New noB u10.heap.size))) from by rw[hs5];exact hW u10 s4 (nest+1) HQ.out.ds (by rw[← hs5];exact hne5)).mono ?_
 rintro e u11 ⟨_,rfl,⟨zk,zo,zn,zl,zm,zs,za,zq,zc,rfl⟩,hds,ht,hv⟩
 replace HR:=Zh (HR.out.t1 ht (by have:=HC.out;omega))
 replace HX:=Zh (HX.out.t1 ht (by have:=HC.out;omega))
 replace HA:=Zh (HA.out.t1 ht (by have:=HC.out;omega))
 replace HY:=Zh (HY.out.t1 ht (by have:=HC.out;omega))
 replace HVx:=Zh (HVx.out.t1 okE_f ht (fun k (hk:n2≤k∧k < BX)=>by have:=HC.out;omega))
 replace HVy:=Zh (HVy.out.t1 okE_f ht (fun k (hk:n3≤k∧k < BY)=>by have:=HC.out;omega))
 replace HQ:=Zh (HQ.out.call ht hds)
 replace HC:=Zh (cU HC.out ht.size)
 clear ht hds
 obtain⟨u12,hu12⟩:=nm (u11.alloc (.cells #[Zi zk,Zi zo,Zi zn,.string zs,.slice za zq zc,Zi zl,Zi zm] 66))
 obtain⟨BZ,hBZ⟩:=nm u11.heap.size
 have hb:Below u11.heap.size u11 u12:=by rw[hu12];exact bel_al _ _
 have HZ:Hid (Row7 u12 BZ (Zi zk) (Zi zo) (Zi zn) (.string zs) (.slice za zq zc) (Zi zl) (Zi zm)):=Zh (by rw[hu12,hBZ];exact heap_alloc_new _ _ rfl)
 have HVz:Hid (OV okE (fun k=>n4≤k∧k < BZ) s5 (.agg #[Zi zk,Zi zo,Zi zn,.string zs,.slice za zq zc,Zi zl,Zi zm]) u12):=Zh (OV.res hv okE_f okE_lt' hb (fun k h1 h2=>⟨by omega,by omega⟩))
 clear hv
 have hc0:=HC.out
 replace HR:=Zh (HR.out.kept hb)
 replace HX:=Zh (HX.out.kept hb)
 replace HA:=Zh (HA.out.kept hb)
 replace HY:=Zh (HY.out.kept hb)
 replace HVx:=Zh (HVx.out.bel okE_f hb)
 replace HVy:=Zh (HVy.out.bel okE_f hb)
 replace HQ:=Zh (HQ.out.bel hb)
 replace HC:=Zh (cA HC.out hBZ (blk_lt HZ.out))
 clear hb hc0
 go_upto_region 9 with fail
 rw[← hu12,← hBZ]
 clear hu12 hBZ
 clear hn4
 obtain⟨c7,f7⟩:=HQ.out.ds.cell7
 obtain⟨u13,hu13⟩:=nm (u12.setCell ⟨pb,7,none⟩ (Zi (nest:Int)))
 have ht:T1 pb u12 u13:=by rw[hu13];exact T1.set
 have hds:=by have h:=HQ.out.ds.nest nest (fun y ts e=>hn);rw[← hu13] at h;exact h
 rw[← HN1.out] at c7
 replace HR:=Zh (HR.out.t1 ht (by have:=HC.out;omega))
 replace HX:=Zh (HX.out.t1 ht (by have:=HC.out;omega))
 replace HA:=Zh (HA.out.t1 ht (by have:=HC.out;omega))
 replace HY:=Zh (HY.out.t1 ht (by have:=HC.out;omega))
 replace HZ:=Zh (HZ.out.t1 ht (by have:=HC.out;omega))
 replace HVx:=Zh (HVx.out.t1 okE_f ht (fun k (hk:n2≤k∧k < BX)=>by have:=HC.out;omega))
 replace HVy:=Zh (HVy.out.t1 okE_f ht (fun k (hk:n3≤k∧k < BY)=>by have:=HC.out;omega))
 replace HVz:=Zh (HVz.out.t1 okE_f ht (fun k (hk:n4≤k∧k < BZ)=>by have:=HC.out;omega))
 replace HQ:=Zh (HQ.out.call ht hds)
 replace HC:=Zh (cU HC.out ht.size)
 clear ht hds
 go_upto_region 10 with fail
 rw[← hu13]
 clear hu13 c7 f7
 obtain⟨v9,hv9⟩:=nm (u13.alloc (.cells #[Zi xk,Zi xo,Zi xn,.string xs,.slice xa xq xc,Zi xl,Zi xm,Zi yk,Zi yo,Zi yn,.string ys,.slice ya yq yc,Zi yl,Zi ym,Zi zk,Zi zo,Zi zn,.string zs,.slice za zq zc,Zi zl,Zi zm] 66))
 have hb:Below u13.heap.size u13 v9:=by rw[hv9];exact bel_al _ _
 have hc:=HC.out
 have hv:OV okE (fun k=>w.heap.size < k) G (.agg #[Zi 10,Zi 0,Zi 0,Ze,.slice (some ⟨u13.heap.size,0,none⟩) 3 3,Zi (pl:Int),Zi (pc:Int)]) v9:=fun X r e=>by
  obtain⟨y,ry,z,rz,ey,ez,rfl⟩:=key.2.1 X r e
  obtain⟨x,rx,ex,hxx⟩:∃x rx,s1=.ok x rx∧x0=x:=⟨x0,r0,hx,rfl⟩
  have hpp:=hp x0 r0 hx
  rw[← hpp,hxx]
  refine⟨_,rfl,?_⟩
  rw[hv9]
  exact ArC_new (okE_cons (okE_mono (HVx.out x rx ex) (fun k hk _=>by obtain⟨h1,h2⟩:=hk;omega)) (okE_cons (okE_mono (HVy.out y ry ey) (fun k hk _=>by obtain⟨h1,h2⟩:=hk;omega)) (okE_cons (okE_mono (HVz.out z rz ez) (fun k hk _=>by obtain⟨h1,h2⟩:=hk;omega)) .nil))) (fun k hk=>hk) (by omega)
 have hq9:DQ w v9 pb al L en nest G:=(HQ.out.call (T1.bel (Below.refl _ _)) (HQ.out.ds.toU.like key.1)).bel hb
 obtain⟨⟨x0,x1,x2,x3,x4,x5,x6⟩,_⟩:=HX.out.cells
 obtain⟨⟨y0,y1,y2,y3,y4,y5,y6⟩,_⟩:=HY.out.cells
 obtain⟨⟨z0,z1,z2,z3,z4,z5,z6⟩,_⟩:=HZ.out.cells
 obtain⟨a0,a1⟩:=(HA.out.kept hb).cells.1
 have HR9:Hid (Row7 v9 w.heap.size (Zi 0) (Zi 0) (Zi 0) (Ze) (Zn) (Zi 0) (Zi 0)):=Zh (HR.out.kept hb)
 clear HR
 have HR:=Zh HR9.out
 clear HR9
 have HF:=Zh (dres7 (P':=New noB w.heap.size) hq9 (by omega) HR.out ⟨_,_,_,_,_,_,_,_,_,rfl⟩ okE_f hv (fun k (hk:w.heap.size < k)=>⟨.inr (by omega),by omega⟩))
 obtain⟨_,f0,f1,f2,f3,f4,f5,f6⟩:=HR.out.cells
 clear HQ HR hv hq9 hc HC HVx HVy HVz HA HX HY HZ hb key
 subst hv9
 go_wp2_with fail
 obtain⟨⟨d0,d1,d2,d3,d4,d5,d6⟩,_⟩:=HF.out.1.cells
 exact bodyPost_ret (v:=.agg #[Zi 10,Zi 0,Zi 0,Ze,.slice (some ⟨u13.heap.size,0,none⟩) 3 3,Zi (pl:Int),Zi (pc:Int)]) (by simp[results,Tryz.results91,go_sem,d0,d1,d2,d3,d4,d5,d6]) rfl HF.out.2
theorem dchoice_any {pb:Nat} {al:Value} {L:List Tok} {en:Nat × Nat} {f:Nat} (hL:TksOk L) (hlen:L.length≤70000) (hX:DCx pb al L en f):DCc pb al L en (f+1):=by
 intro w ts nest hds hne
 by_cases hp:pkS (pJo en f 1 nest ts)=[63]
 ·cases hj:pJo en f 1 nest ts with
  | er p e=>rw[hj] at hp;cases hp
  | ok x r=>
   rw[hj] at hp
   have hnx:nxtT r=[63]:=by
    have hp:pkT r=[63]:=hp
    unfold pkT at hp
    split at hp
    ·exact hp
    ·cases hp
   have e:pWh en (f+1) nest ts=pCh en f nest x r:=by rw[pWh_eq,hj,PR.bind_ok,if_pos hnx]
   rw[e] at hne ⊢
   exact dchoiceyes_any hX w ts nest hds hlen hL hX.w x r hj hnx hne
 ·exact dchoiceno_any hX w ts nest hds hL hne hp
theorem DS.adv {α:Type} {W:World} {pb nest:Nat} {al:Value} {L:List Tok} {en:Nat × Nat} {y:α} {ts:List Tok} (h:DS W pb al L en nest (PR.ok y ts)) (hlen:L.length≤70000) (hts:ts≠[]):∃k:Nat,W.cell? ⟨pb,1,none⟩=some (Zi (k:Int))∧W.frozen? ⟨pb,1,none⟩=false∧k≤70000∧∀(β:Type) (z:β),DS (W.setCell ⟨pb,1,none⟩ (Zi ((k+1:Nat):Int))) pb al L en nest (PR.ok z ts.tail):=by
 obtain⟨h0,k,h1,rfl,h3,h4⟩:=h
 have hk:k < L.length:=by
  rcases Nat.lt_or_ge k L.length with h | h
  ·exact h
  ·exact absurd (List.drop_eq_nil_of_le h) hts
 exact⟨k,h3.cells.2.1,h3.frz.1,by omega,fun β z=>DS.next z h0 hk h3 h4⟩
def mD (pb:Nat) (W:World):Nat:=match W.cell? ⟨pb,6,none⟩,W.cell? ⟨pb,0,none⟩,W.cell? ⟨pb,1,none⟩ with
 | some (.int _ e),some (.slice _ n _),some (.int _ k)=>if e=0 then n - k.toNat+1 else 0
 | _,_,_=>0
theorem mD_ok {α:Type} {W:World} {pb nest:Nat} {al:Value} {L:List Tok} {en:Nat × Nat} {y:α} {ts:List Tok} (h:DS W pb al L en nest (PR.ok y ts)):mD pb W=ts.length+1:=by
 obtain⟨h0,k,h1,rfl,h3,h4⟩:=h
 obtain⟨ao,c,rfl,_⟩:=h4
 obtain⟨c0,c1,_,_,_,_,c6,_⟩:=h3.cells
 unfold mD
 rw[c0,c1,c6]
 simp
theorem mD_er {α:Type} {W:World} {pb nest:Nat} {al:Value} {L:List Tok} {en:Nat × Nat} {p:Nat × Nat} {x:Nat} (h:DS W pb al L en nest (PR.er p x:PR α)):mD pb W=0:=by
 obtain⟨h0,k,h1,h3,h4⟩:=h
 obtain⟨ao,c,rfl,_⟩:=h4
 obtain⟨c0,c1,_,_,_,_,c6,_⟩:=h3.cells
 unfold mD
 rw[c0,c1,c6]
 simp[h0]
theorem jo_kw {rank:Nat} {s:List UInt8} {p:Nat × Nat} (h:jointO rank s=some p):s∈kwL:=by
 unfold jointO at h
 cases hf:jointL.find? fun j=>decide (j.2.1=rank) && decide (j.1=s) with
 | none=>rw[hf] at h;cases h
 | some j=>
  have h1:=List.find?_some hf
  have h2:=List.mem_of_find?_eq_some hf
  simp only[Bool.and_eq_true,decide_eq_true_eq] at h1
  unfold kwL
  rw[List.mem_append]
  right
  rw[List.mem_map]
  exact⟨j,h2,h1.2⟩
theorem jo_pk {ts:List Tok} (h:TksOk ts) (rank:Nat):jointO rank (pkT ts)=jointO rank (nxtT ts):=by
 unfold pkT
 split
 ·rfl
 ·rename_i hk
  rw[jo_nil]
  cases hj:jointO rank (nxtT ts) with
  | none=>rfl
  | some p=>
   cases ts with
   | nil=>rw[show nxtT []=[] from rfl,jo_nil] at hj;cases hj
   | cons t r=>
    obtain⟨h1,h2⟩:=h t (List.mem_cons_self ..)
    have hk':¬(t.1=2∨t.1=4):=hk
    exact absurd rfl (h2 (by omega) _ (jo_kw hj))
theorem jo_pos:∀j∈jointL,j.2.2.1≠0:=by decide
theorem joD_zero {rank:Nat} {s:List UInt8} (h:(joD rank s).1=0):jointO (rank - 1) s=none:=by
 unfold joD at h
 cases hj:jointO (rank - 1) s with
 | none=>rfl
 | some p=>
  rw[hj] at h
  unfold jointO at hj
  cases hf:jointL.find? fun j=>decide (j.2.1=rank - 1) && decide (j.1=s) with
  | none=>rw[hf] at hj;cases hj
  | some j=>
   rw[hf] at hj
   have h2:=jo_pos j (List.mem_of_find?_eq_some hf)
   simp only[Option.map_some,Option.some.injEq] at hj
   subst hj
   exact absurd h h2
structure DLx (w wr:World) (pb:Nat) (al:Value) (L:List Tok) (en:Nat × Nat) (nest rank f:Nat) (G:PR Ex) (g:Nat) (S:PR Ex) (B:Nat) (k o n l c:Int) (s:ByteArray) (ao:Option Addr) (q qc:Nat):Prop where
 gf:g≤f
 dq:DQ w wr pb al L en nest S
 z:z7 wr w.heap.size
 row:Row7 wr B (Zi k) (Zi o) (Zi n) (.string s) (.slice ao q qc) (Zi l) (Zi c)
 ok:OV okE (fun k=>w.heap.size < k∧k≠B) S (.agg #[Zi k,Zi o,Zi n,.string s,.slice ao q qc,Zi l,Zi c]) wr
 eq:G=S.bind fun x ts=>pLo en g (rank - 1) nest x ts
 bb:w.heap.size < B
theorem dexpr_er {pb:Nat} {al:Value} {L:List Tok} {en:Nat × Nat} (w:World) (nest:Nat) (ri:Int) (p:Nat × Nat) (x:Nat) (hds:DS w pb al L en nest (PR.er p x:PR Unit)) (G:PR Ex) (hG:G=.er p x):Calls Tryz.prog 57 #[Zp pb,Zi ri] w (DP A7 w pb al L en nest G (okE (New noB w.heap.size))):=by
 subst hG
 obtain⟨u1,hu1⟩:=nm (w.alloc (.cells #[Zi 0,Zi 0,Zi 0,Ze,Zn,Zi 0,Zi 0] 66))
 have hb0:Below w.heap.size w u1:=by rw[hu1];exact bel_al _ _
 have HQ:=Zh ((DQ.start hds).bel hb0)
 have HR:Hid (Row7 u1 w.heap.size (Zi 0) (Zi 0) (Zi 0) (Ze) (Zn) (Zi 0) (Zi 0)):=Zh (by rw[hu1];exact heap_alloc_new _ _ rfl)
 have HC:=Zh (cS HQ.out.lt (blk_lt HR.out))
 clear hb0
 obtain⟨h0,k,h1,h3,h4⟩:=HQ.out.ds
 obtain⟨_,_,_,_,_,_,c6,_⟩:=h3.cells
 obtain⟨xi,hxi⟩:∃xi:Int,xi=(x:Int):=⟨_,rfl⟩
 rw[← hxi] at c6
 have hd:(xi != 0)=true:=by simp;omega
 clear hxi h0 h1 h3 h4
 have HF:=Zh (dres7 (a0:=Zi 0) (a1:=Zi 0) (a2:=Zi 0) (a3:=Ze) (a4:=Zn) (a5:=Zi 0) (a6:=Zi 0) (P:=noB) (P':=New noB w.heap.size) (G:=(PR.er p x:PR Ex)) (HQ.out.call (T1.bel (Below.refl _ _)) (HQ.out.ds.like (like_er p x))) (Nat.le_refl _) HR.out ⟨_,_,_,_,_,_,_,_,_,rfl⟩ okE_f (fun x r e=>by cases e) (fun k hk=>hk.elim))
 obtain⟨_,f0,f1,f2,f3,f4,f5,f6⟩:=HR.out.cells
 clear HQ HR HC
 clear hds
 go_enter Tryz.func57,Tryz.ntmps57
 go_upto_region 1 with fail
 rw[← hu1]
 clear hu1
 go_wp2_with fail
 obtain⟨⟨d0,d1,d2,d3,d4,d5,d6⟩,_⟩:=HF.out.1.cells
 exact bodyPost_ret (v:=.agg #[Zi 0,Zi 0,Zi 0,Ze,Zn,Zi 0,Zi 0]) (by simp[results,Tryz.results57,go_sem,d0,d1,d2,d3,d4,d5,d6]) rfl HF.out.2
theorem dexpr_one {pb:Nat} {al:Value} {L:List Tok} {en:Nat × Nat} (w:World) (ts:List Tok) (nest:Nat) (hds:DS w pb al L en nest (PR.ok () ts:PR Unit)) (G:PR Ex) (hJ:∀U,DS U pb al L en nest (PR.ok () ts:PR Unit)→Calls Tryz.prog 91 #[Zp pb] U (DP A7 U pb al L en nest G (okE (New noB U.heap.size)))):Calls Tryz.prog 57 #[Zp pb,Zi 1] w (DP A7 w pb al L en nest G (okE (New noB w.heap.size))):=by
 have c60:∀U,DS U pb al L en nest (PR.ok () ts)→U.cell? ⟨pb,6,none⟩=some (Zi 0):=fun U hU=>by obtain⟨_,k,_,_,h3,_⟩:=hU;exact h3.cells.2.2.2.2.2.2.1
 obtain⟨u1,hu1⟩:=nm (w.alloc (.cells #[Zi 0,Zi 0,Zi 0,Ze,Zn,Zi 0,Zi 0] 66))
 have hb0:Below w.heap.size w u1:=by rw[hu1];exact bel_al _ _
 have HQ:=Zh ((DQ.start hds).bel hb0)
 have HR:Hid (Row7 u1 w.heap.size (Zi 0) (Zi 0) (Zi 0) (Ze) (Zn) (Zi 0) (Zi 0)):=Zh (by rw[hu1];exact heap_alloc_new _ _ rfl)
 have HC:=Zh (cS HQ.out.lt (blk_lt HR.out))
 clear hb0
 have c6:=c60 _ HQ.out.ds
 clear c60
 clear hds
 go_enter Tryz.func57,Tryz.ntmps57
 go_upto_region 1 with fail
 rw[← hu1]
 clear hu1
 go_wp2_with fail
 refine (show Calls Tryz.prog 91 #[Zp pb] u1 (DP A7 u1 pb al L en nest G (okE (New noB u1.heap.size))) from hJ u1 HQ.out.ds).mono ?_
 rintro e u2 ⟨_,rfl,⟨xk,xo,xn,xl,xm,xs,xa,xq,xc,rfl⟩,hds,ht,hv⟩
 have hsz:=ht.size
 have hc1:=HC.out
 replace HR:=Zh (HR.out.t1 ht (by have:=HC.out;omega))
 replace HQ:=Zh (HQ.out.call ht hds)
 replace HC:=Zh (cU HC.out ht.size)
 clear ht hds
 have hc:=HC.out
 clear c6
 have HF:=Zh (dres7 (P':=New noB w.heap.size) HQ.out (by omega) HR.out ⟨_,_,_,_,_,_,_,_,_,rfl⟩ okE_f (OV.mono (P:=fun k=>w.heap.size < k) hv okE_f okE_lt' (fun k h1 h2=>by omega)) (fun k (hk:w.heap.size < k)=>⟨.inr (by omega),by omega⟩))
 obtain⟨_,f0,f1,f2,f3,f4,f5,f6⟩:=HR.out.cells
 clear HQ HR hc hc1 hv HC hsz
 go_wp2_with fail
 obtain⟨⟨d0,d1,d2,d3,d4,d5,d6⟩,_⟩:=HF.out.1.cells
 exact bodyPost_ret (v:=.agg #[Zi xk,Zi xo,Zi xn,.string xs,.slice xa xq xc,Zi xl,Zi xm]) (by simp[results,Tryz.results57,go_sem,d0,d1,d2,d3,d4,d5,d6]) rfl HF.out.2
theorem dexpr_ele {pb:Nat} {al:Value} {L:List Tok} {en:Nat × Nat} (w:World) (ts:List Tok) (nest:Nat) (hds:DS w pb al L en nest (PR.ok () ts:PR Unit)) (G:PR Ex) (hJ:∀U,DS U pb al L en nest (PR.ok () ts:PR Unit)→Calls Tryz.prog 92 #[Zp pb] U (DP A7 U pb al L en nest G (okE (New noB U.heap.size)))):Calls Tryz.prog 57 #[Zp pb,Zi 11] w (DP A7 w pb al L en nest G (okE (New noB w.heap.size))):=by
 have c60:∀U,DS U pb al L en nest (PR.ok () ts)→U.cell? ⟨pb,6,none⟩=some (Zi 0):=fun U hU=>by obtain⟨_,k,_,_,h3,_⟩:=hU;exact h3.cells.2.2.2.2.2.2.1
 obtain⟨u1,hu1⟩:=nm (w.alloc (.cells #[Zi 0,Zi 0,Zi 0,Ze,Zn,Zi 0,Zi 0] 66))
 have hb0:Below w.heap.size w u1:=by rw[hu1];exact bel_al _ _
 have HQ:=Zh ((DQ.start hds).bel hb0)
 have HR:Hid (Row7 u1 w.heap.size (Zi 0) (Zi 0) (Zi 0) (Ze) (Zn) (Zi 0) (Zi 0)):=Zh (by rw[hu1];exact heap_alloc_new _ _ rfl)
 have HC:=Zh (cS HQ.out.lt (blk_lt HR.out))
 clear hb0
 have c6:=c60 _ HQ.out.ds
 clear c60
 clear hds
 go_enter Tryz.func57,Tryz.ntmps57
 go_upto_region 1 with fail
 rw[← hu1]
 clear hu1
 go_wp2_with fail
 refine (show Calls Tryz.prog 92 #[Zp pb] u1 (DP A7 u1 pb al L en nest G (okE (New noB u1.heap.size))) from hJ u1 HQ.out.ds).mono ?_
 rintro e u2 ⟨_,rfl,⟨xk,xo,xn,xl,xm,xs,xa,xq,xc,rfl⟩,hds,ht,hv⟩
 have hsz:=ht.size
 have hc1:=HC.out
 replace HR:=Zh (HR.out.t1 ht (by have:=HC.out;omega))
 replace HQ:=Zh (HQ.out.call ht hds)
 replace HC:=Zh (cU HC.out ht.size)
 clear ht hds
 have hc:=HC.out
 clear c6
 have HF:=Zh (dres7 (P':=New noB w.heap.size) HQ.out (by omega) HR.out ⟨_,_,_,_,_,_,_,_,_,rfl⟩ okE_f (OV.mono (P:=fun k=>w.heap.size < k) hv okE_f okE_lt' (fun k h1 h2=>by omega)) (fun k (hk:w.heap.size < k)=>⟨.inr (by omega),by omega⟩))
 obtain⟨_,f0,f1,f2,f3,f4,f5,f6⟩:=HR.out.cells
 clear HQ HR hc hc1 hv HC hsz
 go_wp2_with fail
 obtain⟨⟨d0,d1,d2,d3,d4,d5,d6⟩,_⟩:=HF.out.1.cells
 exact bodyPost_ret (v:=.agg #[Zi xk,Zi xo,Zi xn,.string xs,.slice xa xq xc,Zi xl,Zi xm]) (by simp[results,Tryz.results57,go_sem,d0,d1,d2,d3,d4,d5,d6]) rfl HF.out.2
end Go.Proofs.YtlfooogmoigpfaaGreatDoor
