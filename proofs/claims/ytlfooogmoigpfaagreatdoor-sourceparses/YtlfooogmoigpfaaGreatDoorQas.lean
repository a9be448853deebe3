import Derived.Test.YtlfooogmoigpfaaGreatDoorQar
import Derived.Test.YtlfooogmoigpfaaGreatDoorQam
import Derived.Test.YtlfooogmoigpfaaGreatDoorQaa
set_option maxRecDepth 100000
set_option maxHeartbeats 8000000
namespace Go.Proofs.YtlfooogmoigpfaaGreatDoor
open Go.RowKit Go.Sort Go.Shelf
structure BLd (w wr:World) (pb:Nat) (al:Value) (L:List Tok) (en:Nat × Nat) (nest f:Nat) (G:PR (List St)) (g:Nat) (S:PR (List St)) (n:Nat) (cs:List Value) (x:Value):Prop where
 gf:g≤f
 dq:DQ w wr pb al L en (nest+1) S
 own:wr.ownsRow w.heap.size 117 20 x n cs
 sts:∀acc ts,S=.ok acc ts→n=acc.length∧StsC (fun k=>w.heap.size≤k∧x.ownBlock≠some k) wr acc cs∧n+ts.length≤100000
 eq:G=S.bind fun acc ts=>pSs en g (nest+1) acc ts
 ln:n≤100001
theorem dblock_any {pb:Nat} {al:Value} {L:List Tok} {en:Nat × Nat} {f:Nat} (hL:TksOk L) (hlen:L.length≤70000) (hT:∀g,g < f→DCs pb al L en g) (w:World) (s:PR Unit) (nest:Nat) (hn:nest≤201) (hds:DS w pb al L en nest s) (hne:(s.bind fun _ ts=>pBl en f nest ts)≠.er (0,0) 0):Calls Tryz.prog 61 #[Zp pb] w (DP ASl w pb al L en nest (s.bind fun _ ts=>pBl en f nest ts) (okSs (New noB w.heap.size))):=by
 have hll:L.length≤70000:=hlen
 obtain⟨s1,hs1⟩:=nm (s.bind fun _ ts=>pOp en nest [123] ts:PR Unit)
 obtain⟨G,hG⟩:=nm (s1.bind fun _ r=>pSs en f (nest+1) [] r:PR (List St))
 obtain⟨s5,hs5⟩:=nm (G.bind fun _ t=>pMust en [125] t:PR Unit)
 obtain⟨G9,hG9⟩:=nm (s.bind fun _ ts=>pBl en f nest ts:PR (List St))
 rw[← hG9] at hne ⊢
 have key:Like s5 G9∧(∀X r,G9=.ok X r→∃rx,G=.ok X rx)∧(∀p e,G=.er p e→G9=.er p e):=by
  have h:=like1 s1 (fun r=>pSs en f (nest+1) [] r) (fun t=>pMust en [125] t) (fun x=>x)
  have e:G9=s1.bind fun _ r=>(pSs en f (nest+1) [] r).bind fun x t=>(pMust en [125] t).bind fun _ t=>.ok x t:=by
   rw[hG9,hs1,PR.bind_assoc]
   congr 1
   funext _ ts
   unfold pBl
   rw[pBr_op]
  rw[← e,← hG,← hs5] at h
  exact⟨h.1,fun X r hX=>(by obtain⟨x,rx,h1,h2⟩:=h.2.1 X r hX;exact⟨rx,by rw[h2];exact h1⟩),h.2.2⟩
 have HNe:Hid (G≠.er (0,0) 0):=Zh (fun h=>hne (key.2.2 _ _ h))
 have HKey:=Zh key
 have HS5:=Zh hs5
 clear hne hG9 key hs5
 have HQ:=Zh (DQ.start hds)
 have HC:=Zh (And.intro HQ.out.lt (Nat.le_refl w.heap.size))
 clear hds
 go_enter Tryz.func61,Tryz.ntmps61
 go_wp2_with fail
 refine (show Calls Tryz.prog 58 #[Zp pb,.string ⟨#[123]⟩] w (fun e w'=>e=.returned (.tuple #[])∧DS w' pb al L en (nest+1) s1∧T1 pb w w') from by rw[hs1];exact dopens_any w pb al L en nest s [123] hL hlen (by omega) (by decide) HQ.out.ds).mono ?_
 rintro e u1 ⟨rfl,hds,ht⟩
 replace HQ:=Zh (HQ.out.call ht hds)
 replace HC:=Zh (cU HC.out ht.size)
 clear ht hds
 have HL:Hid (∃g S m cs x,(Zn:Value)=x∧BLd w u1 pb al L en nest f G g S m cs x):=Zh ⟨f,s1.bind fun _ r=>.ok [] r,0,[],_,rfl,Nat.le_refl _,HQ.out.call (T1.bel (Below.refl _ _)) (HQ.out.ds.like (like_unit s1 _)),⟨rfl,.inl ⟨rfl,rfl⟩⟩,fun acc ts e=>by
  have hd:=HQ.out.ds
  obtain⟨u9,r9,e1,e2⟩:=PR.bind_inv e
  simp only[PR.ok.injEq] at e2
  obtain⟨rfl,rfl⟩:=e2
  rw[e1] at hd
  have:=hd.len
  exact⟨rfl,.nil,by omega⟩,by rw[hG,PR.bind_assoc];rfl,by omega⟩
 clear HC HQ hs1 hG hll
 go_wp2_with fail
 go_loopw[3] (fun s wr=>Hid (∃g S m cs x,s=x∧BLd w wr pb al L en nest f G g S m cs x)) (fun _ wr=>mD pb wr)
 case atStart=>exact HL
 case round=>
  clear HL
  obtain⟨g,S,n,cs,x,rfl,hL2⟩:=hrel.out
  have hrel:=hL2.own
  obtain⟨xa,xc,rfl,hx3⟩:=own_slice hL2.own
  clear hx3
  have hng:(S.bind fun acc ts=>pSs en g (nest+1) acc ts)≠.er (0,0) 0:=by rw[← hL2.eq];exact HNe.out
  have HL:=Zh hL2
  have HEnd:∀(U:World),T1 pb w U→DS U pb al L en (nest+1) S→(∀k,w.heap.size≤k→k < wr.heap.size→U.heap[k]? = wr.heap[k]?)→G=S→Calls Tryz.prog 60 #[Zp pb,.string ⟨#[125]⟩] U fun e w'=>e=.returned (.tuple #[])∧DP ASl w pb al L en nest G9 (okSs (New noB w.heap.size)) (.returned (.slice xa n xc)) w':=fun U ht hd hs hGS=>by
   have h:=dcloses_any U pb al L en nest (toU S) [125] hL hlen (by omega) (by decide) hd.toU
   rw[toU_bind] at h
   refine h.mono ?_
   rintro e w' ⟨rfl,hd2,ht2⟩
   refine⟨rfl,_,rfl,⟨_,_,_,rfl⟩,?_,ht.trans ht2,fun X r e=>?_⟩
   ·refine DS.like hd2 ?_
    have hk:=HKey.out.1
    rw[HS5.out,hGS] at hk
    exact hk
   ·obtain⟨rx,e1⟩:=HKey.out.2.1 X r e
    rw[hGS] at e1
    obtain⟨c1,c2,_⟩:=HL.out.sts X rx e1
    have hlt:=HL.out.dq.lt
    have hs2:∀k,w.heap.size≤k→k < wr.heap.size→w'.heap[k]? = wr.heap[k]?:=fun k h1 h2=>(ht2.block k (by
     rcases Nat.lt_or_ge k U.heap.size with h | h
     ·exact h
     ·have h3:=hs k h1 h2
      rw[Array.getElem?_eq_none h,Array.getElem?_eq_getElem h2] at h3
      cases h3) (by omega)).trans (hs k h1 h2)
    have ho:=ownsRow_same HL.out.own (fun g hg=>hs2 g (World.ownsRow.lt HL.out.own g hg).1 (World.ownsRow.lt HL.out.own g hg).2)
    rw[c1] at ho ⊢
    exact .row _ _ _ (ownsRow_mono ho (Nat.zero_le _)) (fun g hg=>.inr (World.ownsRow.lt ho g hg).1) (StsC.kept (fun k hk=>.inr hk.1) (fun k hk hl=>hs2 k hk.1 hl) c2)
  have HEnd:=Zh HEnd
  clear hL2 hrel
  cases S with
  | er p e=>
   have HGS:Hid (G=PR.er p e):=Zh HL.out.eq
   have hd:=HL.out.dq.ds
   obtain⟨h0,k,h1,h3,h4⟩:=hd
   obtain⟨_,_,_,_,_,_,c6,_⟩:=h3.cells
   obtain⟨xi,hxi⟩:∃xi:Int,xi=(e:Int):=⟨_,rfl⟩
   rw[← hxi] at c6
   have hdd:(xi == 0)=false:=by simp;omega
   have HJ:=Zh (HEnd.out wr HL.out.dq.t1 HL.out.dq.ds (fun _ _ _=>rfl) HGS.out)
   clear hxi h0 h1 h3 h4 HEnd HL HGS hng
   go_wp2_with fail
   refine HJ.out.mono ?_
   clear HJ c6 hdd
   rintro e w5 ⟨rfl,hF⟩
   have HF:=Zh hF
   clear hF
   go_wp2_with fail
   exact bodyPost_ret (v:=.slice xa n xc) (by simp[results,Tryz.results61,go_sem]) rfl HF.out
  | ok acc us=>
   rw[PR.bind_ok] at hng
   have hd:=HL.out.dq.ds
   have c6:wr.cell? ⟨pb,6,none⟩=some (Zi 0):=by obtain⟨_,k,_,_,h3,_⟩:=hd;exact h3.cells.2.2.2.2.2.2.1
   have hpk:=peek_any wr pb al L en (nest+1) (PR.ok acc us) hd
   obtain⟨g,rfl⟩:∃g',g=g'+1:=by
    cases g with
    | zero=>exact absurd (by simp only[pSs]) hng
    | succ g=>exact⟨g,rfl⟩
   have hg:=HL.out.eq
   rw[PR.bind_ok] at hg
   simp only[pSs] at hg
   by_cases he:pkS (PR.ok acc us)=[125]
   ·obtain⟨_,_,e9,hnx,_⟩:=pkS_ok hd hL (by decide) he
    cases e9
    rw[if_pos hnx] at hg
    have HGS:=Zh hg
    have HJ:=Zh (show Calls Tryz.prog 56 #[Zp pb] wr (fun e w2=>e=.returned (.string ⟨#[125]⟩)∧Below wr.heap.size wr w2) from by rw[he] at hpk;exact hpk)
    clear hpk hg he hnx hng hd
    go_wp2_with fail
    refine HJ.out.mono ?_
    clear HJ
    rintro e w5 ⟨rfl,hb⟩
    have HJ:=Zh (HEnd.out w5 (HL.out.dq.t1.trans (T1.bel hb)) (HL.out.dq.ds.kept hb) (fun k _ hl=>hb.block k hl) HGS.out)
    clear hb HEnd HL HGS
    go_wp2_with fail
    refine HJ.out.mono ?_
    clear HJ
    rintro e w6 ⟨rfl,hF⟩
    have HF:=Zh hF
    clear hF
    go_wp2_with fail
    exact bodyPost_ret (v:=.slice xa n xc) (by simp[results,Tryz.results61,go_sem]) rfl HF.out
   ·have hnx:=pkS_no hd hL (by decide) he
    rw[if_neg hnx] at hg
    obtain⟨tx,htx⟩:=nm (Go.Proofs.YtlfooogmoigpfaaGreatDoor.S (pkS (PR.ok acc us)))
    have q125:(tx.toList == [125])=false:=by rw[htx,S_toList];simpa using he
    rw[← htx] at hpk
    obtain⟨s2,hs2⟩:∃z:PR St,z=pSt en g (nest+1) us:=⟨_,rfl⟩
    rw[← hs2] at hg
    have HG:=Zh hg
    have hne2:s2≠.er (0,0) 0:=fun h=>HNe.out (by rw[hg,h];rfl)
    have HM:Hid (mD pb wr=us.length+1):=Zh (mD_ok hd)
    have HT:Hid (∀U,DS U pb al L en (nest+1) (PR.ok () us:PR Unit)→Calls Tryz.prog 95 #[Zp pb] U (DP A20 U pb al L en (nest+1) s2 (okSt (New noB U.heap.size)))):=Zh fun U hU=>by rw[hs2];exact hT g (by have:=HL.out.gf;omega) U us (nest+1) hU (by rw[← hs2];exact hne2)
    have HS2:=Zh hs2
    have HJ:=Zh hpk
    clear hpk hg he hnx hng hd htx hs2 hne2 HEnd
    go_wp2_with fail
    refine HJ.out.mono ?_
    clear HJ
    rintro e w5 ⟨rfl,hb⟩
    have HQ5:=Zh (HL.out.dq.bel hb)
    have HO5:=Zh (ownsRow_same HL.out.own (fun g hg=>hb.block g (World.ownsRow.lt HL.out.own g hg).2))
    have HSt5:=Zh (StsC.kept (fun _ q=>q) (fun k _ hl=>hb.block k hl) (HL.out.sts acc us rfl).2.1)
    have HJ2:=Zh (HT.out w5 (show DS w5 pb al L en (nest+1) (PR.ok () us:PR Unit) from HQ5.out.ds))
    clear hb HT
    go_wp2_with fail
    refine HJ2.out.mono ?_
    clear HJ2 c6 q125
    rintro e w6 ⟨_,rfl,⟨zk,zxk,zxo,zxn,zxl,zxc,zyk,zyo,zyn,zyl,zyc,zl,zc,zs,zxs,zys,zxa,zya,zba,zea,zxq,zxqc,zyq,zyqc,zbq,zbqc,zeq,zeqc,rfl⟩,hds,ht,hv⟩
    have hlt:=HL.out.dq.lt
    have hge:=HQ5.out.ge
    have hq6:=HQ5.out.call ht hds
    have ho6:=ownsRow_same HO5.out (fun g hg=>ht.block g (World.ownsRow.lt HO5.out g hg).2 (by have:=(World.ownsRow.lt HO5.out g hg).1;omega))
    have hst6:=StsC.kept (fun _ q=>q) (fun k hk hl=>ht.block k hl (by omega)) HSt5.out
    obtain⟨uz,huz⟩:=nm (w6.alloc (.cells #[Zi 0,Ze,Zi 0,Zi 0,Zi 0,Ze,Zn,Zi 0,Zi 0,Zi 0,Zi 0,Zi 0,Ze,Zn,Zi 0,Zi 0,Zn,Zn,Zi 0,Zi 0] 117))
    obtain⟨w7,hw7⟩:=nm (w6.alloc (.cells #[Zi zk,.string zs,Zi zxk,Zi zxo,Zi zxn,.string zxs,.slice zxa zxq zxqc,Zi zxl,Zi zxc,Zi zyk,Zi zyo,Zi zyn,.string zys,.slice zya zyq zyqc,Zi zyl,Zi zyc,.slice zba zbq zbqc,.slice zea zeq zeqc,Zi zl,Zi zc] 117))
    obtain⟨BZ,hBZ⟩:=nm (w6.heap.size)
    have hzz:uz.heap[BZ]? = some (.cells #[Zi 0,Ze,Zi 0,Zi 0,Zi 0,Ze,Zn,Zi 0,Zi 0,Zi 0,Zi 0,Zi 0,Ze,Zn,Zi 0,Zi 0,Zn,Zn,Zi 0,Zi 0] 117 (0,0)):=by rw[huz,hBZ];exact heap_alloc_new _ _ rfl
    have hW2:uz.setRow BZ #[Zi zk,.string zs,Zi zxk,Zi zxo,Zi zxn,.string zxs,.slice zxa zxq zxqc,Zi zxl,Zi zxc,Zi zyk,Zi zyo,Zi zyn,.string zys,.slice zya zyq zyqc,Zi zyl,Zi zyc,.slice zba zbq zbqc,.slice zea zeq zeqc,Zi zl,Zi zc]=w7:=by rw[huz,hBZ,hw7];exact World.setRow_alloc_new _ _ _ _
    have hb7:Below w6.heap.size w6 w7:=by rw[hw7];exact bel_al _ _
    have hz7:Row20 w7 BZ (Zi zk) (.string zs) (Zi zxk) (Zi zxo) (Zi zxn) (.string zxs) (.slice zxa zxq zxqc) (Zi zxl) (Zi zxc) (Zi zyk) (Zi zyo) (Zi zyn) (.string zys) (.slice zya zyq zyqc) (Zi zyl) (Zi zyc) (.slice zba zbq zbqc) (.slice zea zeq zeqc) (Zi zl) (Zi zc):=by rw[hw7,hBZ];exact heap_alloc_new _ _ rfl
    have hrg:=hz7.range
    have hq7:=hq6.bel hb7
    have ho7:=ownsRow_same ho6 (fun g hg=>hb7.block g (World.ownsRow.lt ho6 g hg).2)
    have hst7:=StsC.kept (fun _ q=>q) (fun k _ hl=>hb7.block k hl) hst6
    have HAp:=Zh (row_app stmtE ho7 [Zi zk,.string zs,Zi zxk,Zi zxo,Zi zxn,.string zxs,.slice zxa zxq zxqc,Zi zxl,Zi zxc,Zi zyk,Zi zyo,Zi zyn,.string zys,.slice zya zyq zyqc,Zi zyl,Zi zyc,.slice zba zbq zbqc,.slice zea zeq zeqc,Zi zl,Zi zc] rfl (by intro u hu;simp at hu;rcases hu with rfl | rfl | rfl | rfl | rfl | rfl | rfl | rfl | rfl | rfl | rfl | rfl | rfl | rfl | rfl | rfl | rfl | rfl | rfl | rfl <;> rfl) (by have:=HL.out.ln;omega) hq7.ge)
    have HV7:Hid (∀s r,s2=.ok s r→StsC (fun k=>w5.heap.size≤k∧k < BZ) w7 [s] [Zi zk,.string zs,Zi zxk,Zi zxo,Zi zxn,.string zxs,.slice zxa zxq zxqc,Zi zxl,Zi zxc,Zi zyk,Zi zyo,Zi zyn,.string zys,.slice zya zyq zyqc,Zi zyl,Zi zyc,.slice zba zbq zbqc,.slice zea zeq zeqc,Zi zl,Zi zc]):=Zh fun s r e=>StsC.kept (fun k hk=>by
     obtain⟨h1 | h1,h2⟩:=hk
     ·exact h1.elim
     ·exact⟨h1,by omega⟩) (fun k _ hl=>hb7.block k hl) (okSt_list (hv s r e)).lt
    have HB7:Hid (w.heap.size≤w5.heap.size∧w5.heap.size≤BZ∧BZ < w7.heap.size):=Zh ⟨hge,by rw[hBZ];exact ht.size,blk_lt hz7⟩
    have HSts:Hid (∀(s:St) (r:List Tok),s2=.ok s r→∀(w8:World) (v':Value),(∀k,k < w7.heap.size→(.slice xa n xc:Value).ownBlock≠some k→w8.heap[k]? = w7.heap[k]?)→(v'.ownBlock=(.slice xa n xc:Value).ownBlock∨∀k,v'.ownBlock=some k→w7.heap.size≤k)→StsC (fun k=>w.heap.size≤k∧v'.ownBlock≠some k) w8 (acc ++ [s]) (cs ++ [Zi zk,.string zs,Zi zxk,Zi zxo,Zi zxn,.string zxs,.slice zxa zxq zxqc,Zi zxl,Zi zxc,Zi zyk,Zi zyo,Zi zyn,.string zys,.slice zya zyq zyqc,Zi zyl,Zi zyc,.slice zba zbq zbqc,.slice zea zeq zeqc,Zi zl,Zi zc])):=Zh fun s r e w8 v' ho hb=>by
     have hv:∀k,k < w7.heap.size→(.slice xa n xc:Value).ownBlock≠some k→v'.ownBlock≠some k:=fun k hk hne he=>by
      rcases hb with hb | hb
      ·exact hne (hb▸he)
      ·have:=hb k he;omega
     have h7:=HB7.out
     refine StsC.app (StsC.kept (fun k hk=>⟨hk.1.1,hv k hk.2 hk.1.2⟩) (fun k hk hl=>ho k hl hk.1.2) hst7.lt) (StsC.kept (fun k hk=>?_) (fun k hk hl=>ho k hl ?_) (HV7.out s r e))
     ·exact⟨by omega,hv k (by omega) (fun he=>by have:=(World.ownsRow.lt HO5.out k he).2;omega)⟩
     ·exact fun he=>by have:=(World.ownsRow.lt HO5.out k he).2;omega
    have HQ7:=Zh hq7
    clear hds ht hv hlt hge hq6 ho6 hst6 hb7 hz7 hq7 ho7 hst7 HQ5 HO5 HSt5 HV7 HB7 hw7
    go_upto_region 5 with (first | (rw[← huz,← hBZ];refine wpList_store_row rfl 117 _ _ rfl BZ #[Zi zk,.string zs,Zi zxk,Zi zxo,Zi zxn,.string zxs,.slice zxa zxq zxqc,Zi zxl,Zi zxc,Zi zyk,Zi zyo,Zi zyn,.string zys,.slice zya zyq zyqc,Zi zyl,Zi zyc,.slice zba zbq zbqc,.slice zea zeq zeqc,Zi zl,Zi zc] rfl rfl 117 _ hzz (by kernel_rfl) rfl (by kernel_rfl) ?_))
    rw[hW2]
    clear hW2 hzz huz hBZ
    go_wp2_with (first | (refine wpList_load_mid rfl 117 _ rfl BZ 0 rfl [Zi zk,.string zs,Zi zxk,Zi zxo,Zi zxn,.string zxs,.slice zxa zxq zxqc,Zi zxl,Zi zxc,Zi zyk,Zi zyo,Zi zyn,.string zys,.slice zya zyq zyqc,Zi zyl,Zi zyc,.slice zba zbq zbqc,.slice zea zeq zeqc,Zi zl,Zi zc] _ hrg Tryz.underlying117 rfl (by kernel_rfl) ?_) | (at_builtin;refine wpL_appR rfl _ _ 71 rfl (.slice xa n xc) (.slice (some ⟨w7.heap.size,0,none⟩) 1 1) rfl rfl HAp.out ?_;rintro v2 w8 hRA))
    obtain⟨va,vc,rfl⟩:=hRA.shp
    have HRA:=Zh hRA
    have hql:=HQ7.out.low HRA.out.bel
    have HLe:Hid (∃g S m cs x,(.slice va (n+1) vc:Value)=x∧BLd w w8 pb al L en nest f G g S m cs x):=Zh ⟨g,s2.bind fun s r=>.ok (acc ++ [s]) r,n+1,_,_,rfl,by have:=HL.out.gf;omega,hql.call (T1.bel (Below.refl _ _)) (hql.ds.like (like_unit s2 _)),HRA.out.own,fun acc2 r e=>by
     obtain⟨s,rs,e1,e2⟩:=PR.bind_inv e
     simp only[PR.ok.injEq] at e2
     obtain⟨rfl,rfl⟩:=e2
     obtain⟨c1,_,c3⟩:=HL.out.sts acc us rfl
     have h4:=pSt_lt (HS2.out.symm.trans e1)
     exact⟨by rw[List.length_append,List.length_singleton,c1],HSts.out s rs e1 w8 _ HRA.out.oth HRA.out.blk,by omega⟩,by rw[HG.out,PR.bind_assoc];rfl,by have:=(HL.out.sts acc us rfl).2.2;omega⟩
    have HMe:Hid (mD pb w8 < mD pb wr):=Zh (by
     rw[HM.out]
     have hd:=hql.ds
     cases hk:s2 with
     | er p e=>
      rw[hk] at hd
      rw[mD_er hd]
      omega
     | ok X r=>
      rw[hk] at hd
      rw[mD_ok hd]
      have h4:=pSt_lt (HS2.out.symm.trans hk)
      omega)
    clear hRA HRA HAp HQ7 HG HM HSts HL HS2 hql hrg
    go_wp2_with fail
    go_roundw
    case rel=>exact HLe
    case measure=>exact HMe.out
def NB (R B:Nat):Nat→Prop:=fun k=>R < k∧k≠B
structure PQ {α:Type} (w u:World) (pb:Nat) (al:Value) (L:List Tok) (en:Nat × Nat) (nest:Nat) (s:PR α) (R B:Nat) (z d:Obj):Prop where
 q:DQ w u pb al L en nest s
 l0:w.heap.size≤R
 l1:R < B
 l2:B < u.heap.size
 r:u.heap[R]? = some z
 d:u.heap[B]? = some d
section
variable {α β:Type} {w u u':World} {pb nest nest' R B:Nat} {al:Value} {L:List Tok} {en:Nat × Nat} {s:PR α} {G:PR β} {z d d':Obj} {okv:(Nat→Prop)→α→Value→World→Prop}
theorem PQ.call (h:PQ w u pb al L en nest s R B z d) (ht:T1 pb u u') (hd:DS u' pb al L en nest' G):PQ w u' pb al L en nest' G R B z d:=by
 have h0:=h.q.lt
 have h9:=h.l0
 have h1:=h.l1
 have h2:=h.l2
 exact⟨h.q.call ht hd,h9,h1,Nat.lt_of_lt_of_le h2 ht.size,(ht.block R (by omega) (by omega)).trans h.r,(ht.block B h2 (by omega)).trans h.d⟩
theorem PQ.bel (h:PQ w u pb al L en nest s R B z d) (hb:Below u.heap.size u u'):PQ w u' pb al L en nest s R B z d:=by
 have h1:=h.l1
 have h2:=h.l2
 exact⟨h.q.bel hb,h.l0,h1,Nat.lt_of_lt_of_le h2 hb.size,(hb.block R (by omega)).trans h.r,(hb.block B h2).trans h.d⟩
theorem PQ.like (h:PQ w u pb al L en nest s R B z d) (hl:Like s G):PQ w u pb al L en nest G R B z d:=⟨⟨h.q.lt,h.q.t1,h.q.ds.like hl⟩,h.l0,h.l1,h.l2,h.r,h.d⟩
theorem PQ.toU (h:PQ w u pb al L en nest s R B z d):PQ w u pb al L en nest (toU s) R B z d:=⟨⟨h.q.lt,h.q.t1,h.q.ds.toU⟩,h.l0,h.l1,h.l2,h.r,h.d⟩
theorem PQ.set {cs:Array Value} {T:TypeId} (h:PQ w u pb al L en nest s R B z (.cells cs T (0,0))) (i:Nat) (v:Value):PQ w (u.setCell ⟨B,i,none⟩ v) pb al L en nest s R B z (.cells (cs.setIfInBounds i v) T (0,0)):=by
 have h9:=h.l0
 have h1:=h.l1
 have hbe:Below w.heap.size u (u.setCell ⟨B,i,none⟩ v):=(Below.refl _ _).setCell (p:=⟨B,i,none⟩) (by show w.heap.size≤B;omega) _
 exact⟨h.q.low hbe,h9,h1,Nat.lt_of_lt_of_le h.l2 hbe.size,(heap_setCell_other _ _ _ _ (show R≠B by omega)).trans h.r,heap_setCell_same _ B i _ _ _ h.d⟩
theorem PQ.ne (h:PQ w u pb al L en nest s R B z d):∀k,NB R B k→k≠pb:=fun k hk=>by
 have h0:=h.q.lt
 have h9:=h.l0
 have h1:=hk.1
 omega
theorem PQ.base {w0:World} (h:PQ w u pb al L en nest s R B z d) (hb:Below w0.heap.size w0 w) (hl:pb < w0.heap.size):PQ w0 u pb al L en nest s R B z d:=⟨⟨hl,(T1.bel hb).trans h.q.t1,h.q.ds⟩,Nat.le_trans hb.size h.l0,h.l1,h.l2,h.r,h.d⟩
theorem PQ.val (h:PQ w u pb al L en nest G R B z d) (hok:OkvF okv) {v:Value} (hv:∀x r,s=.ok x r→okv (New noB u.heap.size) x v u'):OV okv (NB R B) s v u':=fun x r e=>hok _ _ _ _ _ _ (hv x r e) (fun k hk=>by
 have h1:=h.l1
 have h2:=h.l2
 have hk:u.heap.size≤k:=hk.elim (fun h=>h.elim) id
 exact⟨by omega,by omega⟩) (fun _ _ _=>rfl)
theorem OV.set {v x:Value} {i:Nat} (h:OV okv (NB R B) s v u) (hok:OkvF okv):OV okv (NB R B) s v (u.setCell ⟨B,i,none⟩ x):=h.low hok (fun _ hk _=>heap_setCell_other _ _ _ _ hk.2)
end
section
variable {α β γ:Type} {w u:World} {pb nest R B:Nat} {al:Value} {L:List Tok} {en:Nat × Nat} {s:PR α} {z:Obj} {cs:Array Value} {T:TypeId} {okv:(Nat→Prop)→α→Value→World→Prop} {i0 i1 i2 i3 i4 i5 i6:Nat} {v v0 v1 v2 v3 v4 v5 v6:Value}
theorem PQ.set7 (h:PQ w u pb al L en nest s R B z (.cells cs T (0,0))):PQ w (((((((u.setCell ⟨B,i0,none⟩ v0).setCell ⟨B,i1,none⟩ v1).setCell ⟨B,i2,none⟩ v2).setCell ⟨B,i3,none⟩ v3).setCell ⟨B,i4,none⟩ v4).setCell ⟨B,i5,none⟩ v5).setCell ⟨B,i6,none⟩ v6) pb al L en nest s R B z (.cells (((((((cs.setIfInBounds i0 v0).setIfInBounds i1 v1).setIfInBounds i2 v2).setIfInBounds i3 v3).setIfInBounds i4 v4).setIfInBounds i5 v5).setIfInBounds i6 v6) T (0,0)):=((((((h.set i0 v0).set i1 v1).set i2 v2).set i3 v3).set i4 v4).set i5 v5).set i6 v6
theorem OV.set7 (h:OV okv (NB R B) s v u) (hok:OkvF okv):OV okv (NB R B) s v (((((((u.setCell ⟨B,i0,none⟩ v0).setCell ⟨B,i1,none⟩ v1).setCell ⟨B,i2,none⟩ v2).setCell ⟨B,i3,none⟩ v3).setCell ⟨B,i4,none⟩ v4).setCell ⟨B,i5,none⟩ v5).setCell ⟨B,i6,none⟩ v6):=((((((h.set hok).set hok).set hok).set hok).set hok).set hok).set hok
theorem PQ.chg {cs':Array Value} (h:PQ w u pb al L en nest s R B z (.cells cs T (0,0))) (e:cs=cs'):PQ w u pb al L en nest s R B z (.cells cs' T (0,0)):=e▸h
theorem like_bb (a:PR α) (g:List Tok→PR β) (F:α→β→γ):Like (a.bind fun _ t=>g t) (a.bind fun x r=>(g r).bind fun y r2=>.ok (F x y) r2)∧∀X r,(a.bind fun x r=>(g r).bind fun y r2=>.ok (F x y) r2)=.ok X r→∃x rx y ry,a=.ok x rx∧(a.bind fun _ t=>g t)=.ok y ry∧X=F x y:=by
 cases a with
 | er p e=>exact⟨like_er p e,fun _ _ h=>(by cases h)⟩
 | ok x r=>
  simp only[PR.bind_ok]
  exact⟨like_unit _ _,fun X r h=>by obtain⟨y,t,h1,h2⟩:=PR.bind_inv h;cases h2;exact⟨x,_,y,_,rfl,h1,rfl⟩⟩
theorem like_must (a:PR α) (g:List Tok→PR β):Like (a.bind fun _ t=>g t) (a.bind fun x r=>(g r).bind fun _ r2=>.ok x r2)∧∀X r,(a.bind fun x r=>(g r).bind fun _ r2=>.ok x r2)=.ok X r→∃r',a=.ok X r':=⟨(like_bb a g fun x _=>x).1,fun X r h=>by obtain⟨x,rx,y,ry,h1,_,rfl⟩:=(like_bb a g fun x _=>x).2 X r h;exact⟨rx,h1⟩⟩
end
section
variable {α:Type} {w u:World} {pb nest R B:Nat} {al:Value} {L:List Tok} {en:Nat × Nat} {s:PR α} {z:Obj} {T:TypeId} {v0 v1 v2 v3 v4 v5 v6 v7 v8 v9 v10 v11 v12 v13 v14 v15 v16 v17 v18 v19 a0 a1 a2 a3 a4 a5 a6:Value}
theorem PQ.t0 (h:PQ w u pb al L en nest s R B z (.cells #[v0,v1,v2,v3,v4,v5,v6,v7,v8,v9,v10,v11,v12,v13,v14,v15,v16,v17,v18,v19] T (0,0))):PQ w (u.setCell ⟨B,0,none⟩ a0) pb al L en nest s R B z (.cells #[a0,v1,v2,v3,v4,v5,v6,v7,v8,v9,v10,v11,v12,v13,v14,v15,v16,v17,v18,v19] T (0,0)):=h.set 0 a0
theorem PQ.t1 (h:PQ w u pb al L en nest s R B z (.cells #[v0,v1,v2,v3,v4,v5,v6,v7,v8,v9,v10,v11,v12,v13,v14,v15,v16,v17,v18,v19] T (0,0))):PQ w (u.setCell ⟨B,1,none⟩ a0) pb al L en nest s R B z (.cells #[v0,a0,v2,v3,v4,v5,v6,v7,v8,v9,v10,v11,v12,v13,v14,v15,v16,v17,v18,v19] T (0,0)):=h.set 1 a0
theorem PQ.t16 (h:PQ w u pb al L en nest s R B z (.cells #[v0,v1,v2,v3,v4,v5,v6,v7,v8,v9,v10,v11,v12,v13,v14,v15,v16,v17,v18,v19] T (0,0))):PQ w (u.setCell ⟨B,16,none⟩ a0) pb al L en nest s R B z (.cells #[v0,v1,v2,v3,v4,v5,v6,v7,v8,v9,v10,v11,v12,v13,v14,v15,a0,v17,v18,v19] T (0,0)):=h.set 16 a0
theorem PQ.t17 (h:PQ w u pb al L en nest s R B z (.cells #[v0,v1,v2,v3,v4,v5,v6,v7,v8,v9,v10,v11,v12,v13,v14,v15,v16,v17,v18,v19] T (0,0))):PQ w (u.setCell ⟨B,17,none⟩ a0) pb al L en nest s R B z (.cells #[v0,v1,v2,v3,v4,v5,v6,v7,v8,v9,v10,v11,v12,v13,v14,v15,v16,a0,v18,v19] T (0,0)):=h.set 17 a0
theorem PQ.tX (h:PQ w u pb al L en nest s R B z (.cells #[v0,v1,v2,v3,v4,v5,v6,v7,v8,v9,v10,v11,v12,v13,v14,v15,v16,v17,v18,v19] T (0,0))):PQ w (((((((u.setCell ⟨B,2,none⟩ a0).setCell ⟨B,3,none⟩ a1).setCell ⟨B,4,none⟩ a2).setCell ⟨B,5,none⟩ a3).setCell ⟨B,6,none⟩ a4).setCell ⟨B,7,none⟩ a5).setCell ⟨B,8,none⟩ a6) pb al L en nest s R B z (.cells #[v0,v1,a0,a1,a2,a3,a4,a5,a6,v9,v10,v11,v12,v13,v14,v15,v16,v17,v18,v19] T (0,0)):=h.set7.chg (by simp)
theorem PQ.tY (h:PQ w u pb al L en nest s R B z (.cells #[v0,v1,v2,v3,v4,v5,v6,v7,v8,v9,v10,v11,v12,v13,v14,v15,v16,v17,v18,v19] T (0,0))):PQ w (((((((u.setCell ⟨B,9,none⟩ a0).setCell ⟨B,10,none⟩ a1).setCell ⟨B,11,none⟩ a2).setCell ⟨B,12,none⟩ a3).setCell ⟨B,13,none⟩ a4).setCell ⟨B,14,none⟩ a5).setCell ⟨B,15,none⟩ a6) pb al L en nest s R B z (.cells #[v0,v1,v2,v3,v4,v5,v6,v7,v8,a0,a1,a2,a3,a4,a5,a6,v16,v17,v18,v19] T (0,0)):=h.set7.chg (by simp)
end
theorem dcond_w {pb:Nat} {al:Value} {L:List Tok} {en:Nat × Nat} {f:Nat} (hL:TksOk L) (hlen:L.length≤70000) (hB:DCb pb al L en f) (w:World) (s:PR Unit) (nest:Nat) (p:Nat × Nat) (hn:nest≤201) (hds:DS w pb al L en nest s) (hne:(s.bind fun _ ts=>pCo en (f+1) nest p ts)≠.er (0,0) 0) (hD:(∃ts,s=.ok () ts)→DCd pb al L en f):Calls Tryz.prog 118 #[Zp pb,.agg #[Zi (p.1:Int),Zi (p.2:Int)]] w (DP A20 w pb al L en nest (s.bind fun _ ts=>pCo en (f+1) nest p ts) (okSt (New noB w.heap.size))):=by
 obtain⟨pl,pc⟩:=p
 obtain⟨s1,hs1⟩:=nm (s.bind fun _ t=>pW en nest t)
 obtain⟨s2,hs2⟩:=nm (s1.bind fun _ t=>pBl en f nest t)
 obtain⟨G,hG⟩:=nm (s.bind fun _ ts=>pCo en (f+1) nest (pl,pc) ts)
 rw[← hG] at hne ⊢
 have hG2:G=s1.bind fun x r=>(pBl en f nest r).bind fun b r2=>if nxtT r2=wElse then (pOt en f nest r2.tail).bind fun e r4=>.ok (.mk 9 [] x ex0 b e (pl,pc)) r4 else .ok (.mk 9 [] x ex0 b [] (pl,pc)) r2:=by
  rw[hG,hs1,PR.bind_assoc]
  simp only[pCo_eq]
 have HN2:Hid (s2≠.er (0,0) 0):=Zh fun h=>hne (by
  rw[hG2]
  cases h1:s1 with
  | er p e=>
   rw[hs2,h1] at h
   cases h
   rfl
  | ok x r=>
   rw[hs2,h1,PR.bind_ok] at h
   rw[PR.bind_ok,h]
   rfl)
 have HG:=Zh hG2
 have HNe:=Zh hne
 have HS1:=Zh hs1
 have HS2:=Zh hs2
 have HOk:Hid (∀x r,s1=.ok x r→∃ts,s=.ok () ts):=Zh fun x r h=>by
  rw[hs1] at h
  obtain⟨_,t,h,_⟩:=PR.bind_inv h
  exact⟨t,h⟩
 have HD:=Zh hD
 obtain⟨zT,hzT⟩:=nm (Obj.cells #[Zi 0,Ze,Zi 0,Zi 0,Zi 0,Ze,Zn,Zi 0,Zi 0,Zi 0,Zi 0,Zi 0,Ze,Zn,Zi 0,Zi 0,Zn,Zn,Zi 0,Zi 0] 117 (0,0))
 have HZt:=Zh hzT
 obtain⟨ua,hua⟩:=nm (w.alloc (.cells #[Zi (pl:Int),Zi (pc:Int)] 43))
 obtain⟨u0,hu0⟩:=nm (ua.alloc (.cells #[Zi 0,Ze,Zi 0,Zi 0,Zi 0,Ze,Zn,Zi 0,Zi 0,Zi 0,Zi 0,Zi 0,Ze,Zn,Zi 0,Zi 0,Zn,Zn,Zi 0,Zi 0] 117))
 obtain⟨RR,hRR⟩:=nm (w.heap.size+1)
 have sa:ua.heap.size=RR:=by rw[hua,hRR];simp
 have hba:Below w.heap.size w ua:=by rw[hua];exact bel_al _ _
 have hb1:Below ua.heap.size ua u0:=by rw[hu0];exact bel_al _ _
 have HBa:=Zh (And.intro hba hds.lt)
 have hd0:=hds.low hba hds.lt
 have HQ:=Zh ((DQ.start hd0).bel hb1)
 have hA0:RowP ua w.heap.size (Zi (pl:Int)) (Zi (pc:Int)):=by rw[hua];exact heap_alloc_new _ _ rfl
 have hr:u0.heap[RR]? = some zT:=by rw[hu0,← sa,hzT];exact heap_alloc_new _ _ rfl
 have HA0:=Zh hA0
 have HA:=Zh (hA0.kept hb1)
 have HR:=Zh hr
 have HRs:=Zh (And.intro sa hRR)
 clear hba hb1 hds hd0 hA0 hr hzT hs1 hs2 hG hG2 hne sa hD
 go_enter Tryz.func118,Tryz.ntmps118
 go_upto_region 1 with fail
 rw[← hua,← hu0,← hRR]
 clear hua hu0 hRR
 obtain⟨⟨a0,a1⟩,_⟩:=HA.out.cells
 obtain⟨uz,huz⟩:=nm (u0.alloc (.cells #[Zi 0,Ze,Zi 0,Zi 0,Zi 0,Ze,Zn,Zi 0,Zi 0,Zi 0,Zi 0,Zi 0,Ze,Zn,Zi 0,Zi 0,Zn,Zn,Zi 0,Zi 0] 117))
 obtain⟨u1,hu1⟩:=nm (u0.alloc (.cells #[Zi 9,Ze,Zi 0,Zi 0,Zi 0,Ze,Zn,Zi 0,Zi 0,Zi 0,Zi 0,Zi 0,Ze,Zn,Zi 0,Zi 0,Zn,Zn,Zi (pl:Int),Zi (pc:Int)] 117))
 obtain⟨BT,hBT⟩:=nm u0.heap.size
 have hzz:uz.heap[BT]? = some (.cells #[Zi 0,Ze,Zi 0,Zi 0,Zi 0,Ze,Zn,Zi 0,Zi 0,Zi 0,Zi 0,Zi 0,Ze,Zn,Zi 0,Zi 0,Zn,Zn,Zi 0,Zi 0] 117 (0,0)):=by rw[huz,hBT];exact heap_alloc_new _ _ rfl
 have hW2:uz.setRow BT #[Zi 9,Ze,Zi 0,Zi 0,Zi 0,Ze,Zn,Zi 0,Zi 0,Zi 0,Zi 0,Zi 0,Ze,Zn,Zi 0,Zi 0,Zn,Zn,Zi (pl:Int),Zi (pc:Int)]=u1:=by rw[huz,hBT,hu1];exact World.setRow_alloc_new _ _ _ _
 have HS:Hid (PQ ua u1 pb al L en nest s RR BT zT (.cells #[Zi 9,Ze,Zi 0,Zi 0,Zi 0,Ze,Zn,Zi 0,Zi 0,Zi 0,Zi 0,Zi 0,Ze,Zn,Zi 0,Zi 0,Zn,Zn,Zi (pl:Int),Zi (pc:Int)] 117 (0,0))):=Zh (by
  have hb4:Below u0.heap.size u0 u1:=by rw[hu1];exact bel_al _ _
  have hl:=blk_lt HR.out
  have hd:u1.heap[BT]? = some (.cells #[Zi 9,Ze,Zi 0,Zi 0,Zi 0,Ze,Zn,Zi 0,Zi 0,Zi 0,Zi 0,Zi 0,Ze,Zn,Zi 0,Zi 0,Zn,Zn,Zi (pl:Int),Zi (pc:Int)] 117 (0,0)):=by rw[hu1,hBT];exact heap_alloc_new _ _ rfl
  exact⟨HQ.out.bel hb4,Nat.le_of_eq HRs.out.1,by omega,blk_lt hd,(hb4.block _ hl).trans HR.out,hd⟩)
 clear hu1 HQ HR HA
 go_upto_region 2 with (first | (rw[← huz,← hBT];refine wpList_store_row rfl 117 _ _ rfl BT #[Zi 9,Ze,Zi 0,Zi 0,Zi 0,Ze,Zn,Zi 0,Zi 0,Zi 0,Zi 0,Zi 0,Ze,Zn,Zi 0,Zi 0,Zn,Zn,Zi (pl:Int),Zi (pc:Int)] rfl rfl 117 _ hzz (by kernel_rfl) rfl (by kernel_rfl) ?_))
 rw[hW2]
 clear hW2 hzz huz hBT a0 a1
 go_wp2_with fail
 refine (show Calls Tryz.prog 57 #[Zp pb,Zi 1] u1 (DP A7 u1 pb al L en nest s1 (okE (New noB u1.heap.size))) from by rw[HS1.out];exact dW_any hL hlen u1 s nest HS.out.q.ds).mono ?_
 rintro e u2 ⟨_,rfl,⟨xk,xo,xn,xl,xm,xs,xa,xq,xc,rfl⟩,hds,ht,hv⟩
 have HVx:=Zh (HS.out.val okE_f hv)
 replace HS:=Zh (HS.out.call ht hds)
 clear hds ht hv
 obtain⟨_,_,e2,e3,e4,e5,e6,e7,e8,_⟩:=Row20.cells HS.out.d
 obtain⟨_,_,f2,f3,f4,f5,f6,f7,f8,_⟩:=Row20.frz HS.out.d
 obtain⟨u3,hu3⟩:=nm (((((((u2.setCell ⟨BT,2,none⟩ (Zi xk)).setCell ⟨BT,3,none⟩ (Zi xo)).setCell ⟨BT,4,none⟩ (Zi xn)).setCell ⟨BT,5,none⟩ (.string xs)).setCell ⟨BT,6,none⟩ (.slice xa xq xc)).setCell ⟨BT,7,none⟩ (Zi xl)).setCell ⟨BT,8,none⟩ (Zi xm))
 replace HS:Hid (PQ ua u3 pb al L en nest s1 RR BT zT (.cells #[Zi 9,Ze,Zi xk,Zi xo,Zi xn,.string xs,.slice xa xq xc,Zi xl,Zi xm,Zi 0,Zi 0,Zi 0,Ze,Zn,Zi 0,Zi 0,Zn,Zn,Zi (pl:Int),Zi (pc:Int)] 117 (0,0))):=Zh (by rw[hu3];exact HS.out.tX)
 replace HVx:Hid (OV okE (NB RR BT) s1 (.agg #[Zi xk,Zi xo,Zi xn,.string xs,.slice xa xq xc,Zi xl,Zi xm]) u3):=Zh (by rw[hu3];exact HVx.out.set7 okE_f)
 go_upto_region 3 with fail
 rw[← hu3]
 clear hu3 e2 e3 e4 e5 e6 e7 e8 f2 f3 f4 f5 f6 f7 f8
 go_wp2_with fail
 refine (show Calls Tryz.prog 61 #[Zp pb] u3 (DP ASl u3 pb al L en nest s2 (okSs (New noB u3.heap.size))) from by rw[HS2.out,← toU_bind];exact hB u3 (toU s1) nest (by omega) HS.out.q.ds.toU (by rw[toU_bind,← HS2.out];exact HN2.out)).mono ?_
 rintro e u4 ⟨_,rfl,⟨ba,bq,bc,rfl⟩,hds,ht,hv⟩
 have HVb:=Zh (HS.out.val okSs_f hv)
 replace HVx:=Zh (HVx.out.t1 okE_f ht HS.out.ne)
 replace HS:=Zh (HS.out.call ht hds)
 clear hds ht hv
 obtain⟨_,_,_,_,_,_,_,_,_,_,_,_,_,_,_,_,e16,_⟩:=Row20.cells HS.out.d
 obtain⟨_,_,_,_,_,_,_,_,_,_,_,_,_,_,_,_,f16,_⟩:=Row20.frz HS.out.d
 obtain⟨u5,hu5⟩:=nm (u4.setCell ⟨BT,16,none⟩ (.slice ba bq bc))
 replace HS:Hid (PQ ua u5 pb al L en nest s2 RR BT zT (.cells #[Zi 9,Ze,Zi xk,Zi xo,Zi xn,.string xs,.slice xa xq xc,Zi xl,Zi xm,Zi 0,Zi 0,Zi 0,Ze,Zn,Zi 0,Zi 0,.slice ba bq bc,Zn,Zi (pl:Int),Zi (pc:Int)] 117 (0,0))):=Zh (by rw[hu5];exact HS.out.t16)
 replace HVx:Hid (OV okE (NB RR BT) s1 (.agg #[Zi xk,Zi xo,Zi xn,.string xs,.slice xa xq xc,Zi xl,Zi xm]) u5):=Zh (by rw[hu5];exact HVx.out.set okE_f)
 replace HVb:Hid (OV okSs (NB RR BT) s2 (.slice ba bq bc) u5):=Zh (by rw[hu5];exact HVb.out.set okSs_f)
 go_upto_region 4 with fail
 rw[← hu5]
 clear hu5 e16 f16
 by_cases hno:pkS s2=wElse
 case neg=>
  have hi:=dis_any u5 pb al L en nest (toU s2) wElse hL hlen (by decide) HS.out.q.ds.toU
  rw[pkS_toU,decide_eq_false hno,if_neg hno] at hi
  have HJ:Hid (Calls Tryz.prog 32 #[Zp pb,.string ⟨#[101,108,115,101]⟩] u5 fun e w'=>e=.returned (.bool false)∧DS w' pb al L en nest (toU s2)∧T1 pb u5 w'):=Zh hi
  clear hi
  have hk:Like (toU s2) G∧(∀X r,G=.ok X r→∃x rx b rb,s1=.ok x rx∧s2=.ok b rb∧X=.mk 9 [] x ex0 b [] (pl,pc)):=by
   rw[HG.out]
   have hs2:=HS2.out
   have hU:=HS.out.q.ds
   cases h1:s1 with
   | er p e=>
    rw[h1] at hs2
    rw[hs2]
    exact⟨like_er p e,fun _ _ h=>(by cases h)⟩
   | ok x r=>
    rw[h1,PR.bind_ok] at hs2
    rw[PR.bind_ok,← hs2]
    cases h2:s2 with
    | er p e=>exact⟨like_er p e,fun _ _ h=>(by cases h)⟩
    | ok b r2=>
     rw[h2] at hU hno
     rw[PR.bind_ok,if_neg (pkS_no hU hL (by decide) hno)]
     exact⟨like_ok _ _ _,fun X r h=>(by cases h;exact⟨x,_,b,r2,rfl,rfl,rfl⟩)⟩
  have HK:=Zh hk
  clear hk hno
  go_wp2_with fail
  refine HJ.out.mono ?_
  rintro e u6 ⟨rfl,hds,ht⟩
  replace HVx:=Zh (HVx.out.t1 okE_f ht HS.out.ne)
  replace HVb:=Zh (HVb.out.t1 okSs_f ht HS.out.ne)
  have HSz:=Zh (((HS.out.call ht hds).like HK.out.1).base HBa.out.1 HBa.out.2)
  have hv:OV okSt (NB RR BT) G (.agg #[Zi 9,Ze,Zi xk,Zi xo,Zi xn,.string xs,.slice xa xq xc,Zi xl,Zi xm,Zi 0,Zi 0,Zi 0,Ze,Zn,Zi 0,Zi 0,.slice ba bq bc,Zn,Zi (pl:Int),Zi (pc:Int)]) u6:=fun X r e=>by
   obtain⟨x,rx,b,rb,e2,e4,rfl⟩:=HK.out.2 X r e
   exact okSt_new (p:=(pl,pc)) 9 [] (HVx.out x rx e2) (okE_zero _ _) (HVb.out b rb e4) (RwS.nil _ _)
  clear hds ht HJ HS HN2
  have hrg:=Row20.range HSz.out.d
  have hz:u6.heap[RR]? = some (.cells #[Zi 0,Ze,Zi 0,Zi 0,Zi 0,Ze,Zn,Zi 0,Zi 0,Zi 0,Zi 0,Zi 0,Ze,Zn,Zi 0,Zi 0,Zn,Zn,Zi 0,Zi 0] 117 (0,0)):=HZt.out▸HSz.out.r
  have HF:=Zh (dres20 (P':=New noB w.heap.size) HSz.out.q HSz.out.l0 hz ⟨_,_,_,_,_,_,_,_,_,_,_,_,_,_,_,_,_,_,_,_,_,_,_,_,_,_,_,_,rfl⟩ okSt_f hv (fun k hk=>⟨.inr (Nat.le_of_lt (Nat.lt_of_le_of_lt HSz.out.l0 hk.1)),Nat.ne_of_gt hk.1⟩))
  clear HSz HVx HVb hv HA0 HG HNe HS1 HS2 HOk HD HZt HBa HRs HK
  go_wp2_with (first | (refine wpList_load_mid rfl 117 _ rfl BT 0 rfl [Zi 9,Ze,Zi xk,Zi xo,Zi xn,.string xs,.slice xa xq xc,Zi xl,Zi xm,Zi 0,Zi 0,Zi 0,Ze,Zn,Zi 0,Zi 0,.slice ba bq bc,Zn,Zi (pl:Int),Zi (pc:Int)] _ hrg Tryz.underlying117 rfl (by kernel_rfl) ?_) | (refine wpList_store_row rfl 117 _ _ rfl RR #[Zi 9,Ze,Zi xk,Zi xo,Zi xn,.string xs,.slice xa xq xc,Zi xl,Zi xm,Zi 0,Zi 0,Zi 0,Ze,Zn,Zi 0,Zi 0,.slice ba bq bc,Zn,Zi (pl:Int),Zi (pc:Int)] rfl rfl 117 _ hz (by kernel_rfl) rfl (by kernel_rfl) ?_))
  obtain⟨h1,h2⟩:=HF.out
  clear HF hz hrg
  generalize u6.setRow RR #[Zi 9,Ze,Zi xk,Zi xo,Zi xn,.string xs,.slice xa xq xc,Zi xl,Zi xm,Zi 0,Zi 0,Zi 0,Ze,Zn,Zi 0,Zi 0,.slice ba bq bc,Zn,Zi (pl:Int),Zi (pc:Int)]=W7 at h1 h2 ⊢
  exact bodyPost_ret (v:=.agg #[Zi 9,Ze,Zi xk,Zi xo,Zi xn,.string xs,.slice xa xq xc,Zi xl,Zi xm,Zi 0,Zi 0,Zi 0,Ze,Zn,Zi 0,Zi 0,.slice ba bq bc,Zn,Zi (pl:Int),Zi (pc:Int)]) (res_cell Tryz.results118 rfl h1.load) rfl h2
 have HX:Hid (∃x0 q0 b0 r0,s1=.ok x0 q0∧s2=.ok b0 r0∧nxtT r0=wElse∧G=(pOt en f nest r0.tail).bind fun e r4=>.ok (.mk 9 [] x0 ex0 b0 e (pl,pc)) r4):=Zh (by
  obtain⟨b0,r0,e9,h9,_⟩:=pkS_ok HS.out.q.ds hL (by decide) hno
  have h2:=HS2.out
  rw[e9] at h2
  obtain⟨x0,q0,h3,h4⟩:=PR.bind_inv h2.symm
  refine⟨x0,q0,b0,r0,h3,e9,h9,?_⟩
  rw[HG.out,h3,PR.bind_ok,h4,PR.bind_ok,if_pos h9])
 obtain⟨x0,q0,b0,r0,h1,h2,hnx,hGe⟩:=HX.out
 have HGe:=Zh (And.intro h1 (And.intro h2 hGe))
 have hd2:=HS.out.q.ds.toU
 rw[h2] at hd2
 have hpe:pkS (toU (PR.ok b0 r0:PR (List St)))=wElse:=pk_of' hd2 hL (by decide) hnx
 have hi:=dis_any u5 pb al L en nest _ wElse hL hlen (by decide) hd2
 rw[decide_eq_true hpe,if_pos hpe] at hi
 have HJ:Hid (Calls Tryz.prog 32 #[Zp pb,.string ⟨#[101,108,115,101]⟩] u5 fun e w'=>e=.returned (.bool true)∧DS w' pb al L en nest (PR.ok () r0.tail:PR Unit)∧T1 pb u5 w'):=Zh hi
 have HD2:=Zh (HD.out (HOk.out _ _ h1))
 clear hi hpe hd2 hno h1 h2 hnx hGe HX HD HOk HG HS1 HS2 HN2
 go_wp2_with fail
 refine HJ.out.mono ?_
 rintro e u6 ⟨rfl,hds,ht⟩
 replace HVx:=Zh (HVx.out.t1 okE_f ht HS.out.ne)
 replace HVb:=Zh (HVb.out.t1 okSs_f ht HS.out.ne)
 replace HS:=Zh (HS.out.call ht hds)
 clear hds ht HJ
 obtain⟨⟨rl,rc⟩,hr,hsp⟩:=dspot_any u6 pb al L en nest (PR.ok () r0.tail:PR Unit) HS.out.q.ds
 have HSp:=Zh hsp
 have HRr:=Zh (hr () _ rfl)
 clear hsp hr
 go_wp2_with fail
 refine HSp.out.mono ?_
 rintro e u7 ⟨rfl,hb⟩
 replace HVx:=Zh (HVx.out.bel okE_f hb)
 replace HVb:=Zh (HVb.out.bel okSs_f hb)
 replace HS:=Zh (HS.out.bel hb)
 have hA:RowP u7 w.heap.size (Zi (pl:Int)) (Zi (pc:Int)):=HA0.out.t1 HS.out.q.t1 (Nat.ne_of_gt HBa.out.2)
 obtain⟨⟨e0,e1⟩,f0,f1⟩:=hA.cells
 obtain⟨u8,hu8⟩:=nm ((u7.setCell ⟨w.heap.size,0,none⟩ (Zi (rl:Int))).setCell ⟨w.heap.size,1,none⟩ (Zi (rc:Int)))
 have hoth:∀k,k≠w.heap.size→u8.heap[k]? = u7.heap[k]?:=fun k hk=>by rw[hu8,heap_setCell_other _ _ _ _ hk,heap_setCell_other _ _ _ _ hk]
 have HSx:Hid (PQ w u8 pb al L en nest (PR.ok () r0.tail:PR Unit) RR BT zT (.cells #[Zi 9,Ze,Zi xk,Zi xo,Zi xn,.string xs,.slice xa xq xc,Zi xl,Zi xm,Zi 0,Zi 0,Zi 0,Ze,Zn,Zi 0,Zi 0,.slice ba bq bc,Zn,Zi (pl:Int),Zi (pc:Int)] 117 (0,0))):=Zh (by
  have hs:=HS.out.base HBa.out.1 HBa.out.2
  have hbe:Below w.heap.size u7 u8:=by rw[hu8];exact ((Below.refl _ _).setCell (p:=⟨w.heap.size,0,none⟩) (Nat.le_refl w.heap.size) _).setCell (p:=⟨w.heap.size,1,none⟩) (Nat.le_refl w.heap.size) _
  have hr:=HRs.out.2
  exact⟨hs.q.low hbe,hs.l0,hs.l1,Nat.lt_of_lt_of_le hs.l2 hbe.size,(hoth _ (by omega)).trans hs.r,(hoth _ (by have:=hs.l1;omega)).trans hs.d⟩)
 have HA:Hid (RowP u8 w.heap.size (Zi (rl:Int)) (Zi (rc:Int))):=Zh (by rw[hu8];exact heap_setCell_same _ w.heap.size 1 _ _ _ (heap_setCell_same _ w.heap.size 0 _ _ _ hA))
 have hlow:∀k,NB RR BT k→k≠w.heap.size:=fun k hk=>by have:=hk.1;have:=HRs.out.2;omega
 replace HVx:=Zh (HVx.out.low okE_f (fun k hk _=>hoth k (hlow k hk)))
 replace HVb:=Zh (HVb.out.low okSs_f (fun k hk _=>hoth k (hlow k hk)))
 clear hb hA hoth hlow HS HSp
 have HS:=HSx
 clear HSx
 go_upto_region 7 with fail
 rw[← hu8]
 clear hu8 e0 e1 f0 f1
 by_cases hnx2:nxtT r0.tail=wIf
 case neg=>
  obtain⟨s4,hs4⟩:=nm ((PR.ok () r0.tail:PR Unit).bind fun _ t=>pBl en f nest t)
  have hge:G=s4.bind fun z r4=>.ok (St.mk 9 [] x0 ex0 b0 z (pl,pc)) r4:=by
   have e1:pOt en f nest r0.tail=s4:=by
    unfold pOt
    rw[if_neg hnx2,hs4]
    rfl
   rw[HGe.out.2.2,e1]
  have HK:=Zh (And.intro hs4 (And.intro hge (show s4≠.er (0,0) 0 from fun h=>HNe.out (by rw[hge,h];rfl))))
  have hno:¬pkS (PR.ok () r0.tail)=[105,102]:=fun h=>by
   obtain⟨_,_,e,h9,_⟩:=pkS_ok HS.out.q.ds hL (by decide) h
   cases e
   exact hnx2 h9
  obtain⟨tx,htx⟩:=nm (S (pkS (PR.ok () r0.tail:PR Unit)))
  have qif:(tx.toList == [105,102])=false:=by rw[htx,S_toList];exact beq_eq_false_iff_ne.mpr hno
  have HPk:=Zh (peek_any u8 pb al L en nest (PR.ok () r0.tail:PR Unit) HS.out.q.ds)
  rw[← htx] at HPk
  clear htx hno hnx2 hs4 hge
  go_wp2_with fail
  refine HPk.out.mono ?_
  rintro e u9 ⟨rfl,hb⟩
  replace HVx:=Zh (HVx.out.bel okE_f hb)
  replace HVb:=Zh (HVb.out.bel okSs_f hb)
  replace HS:=Zh (HS.out.bel hb)
  clear hb HPk HA
  go_wp2_with fail
  refine (show Calls Tryz.prog 61 #[Zp pb] u9 (DP ASl u9 pb al L en nest s4 (okSs (New noB u9.heap.size))) from by rw[HK.out.1];exact hB u9 (.ok () r0.tail) nest (by omega) HS.out.q.ds (by rw[← HK.out.1];exact HK.out.2.2)).mono ?_
  rintro e ub ⟨_,rfl,⟨ea,eq,ec,rfl⟩,hds,ht,hv⟩
  have HVe:=Zh (HS.out.val okSs_f hv)
  replace HVx:=Zh (HVx.out.t1 okE_f ht HS.out.ne)
  replace HVb:=Zh (HVb.out.t1 okSs_f ht HS.out.ne)
  replace HS:=Zh (HS.out.call ht hds)
  clear hds ht hv
  obtain⟨_,_,_,_,_,_,_,_,_,_,_,_,_,_,_,_,_,e17,_⟩:=Row20.cells HS.out.d
  obtain⟨_,_,_,_,_,_,_,_,_,_,_,_,_,_,_,_,_,f17,_⟩:=Row20.frz HS.out.d
  obtain⟨uc,huc⟩:=nm (ub.setCell ⟨BT,17,none⟩ (.slice ea eq ec))
  have HSz:Hid (PQ w uc pb al L en nest s4 RR BT zT (.cells #[Zi 9,Ze,Zi xk,Zi xo,Zi xn,.string xs,.slice xa xq xc,Zi xl,Zi xm,Zi 0,Zi 0,Zi 0,Ze,Zn,Zi 0,Zi 0,.slice ba bq bc,.slice ea eq ec,Zi (pl:Int),Zi (pc:Int)] 117 (0,0))):=Zh (by rw[huc];exact HS.out.t17)
  have hv:OV okSt (NB RR BT) G (.agg #[Zi 9,Ze,Zi xk,Zi xo,Zi xn,.string xs,.slice xa xq xc,Zi xl,Zi xm,Zi 0,Zi 0,Zi 0,Ze,Zn,Zi 0,Zi 0,.slice ba bq bc,.slice ea eq ec,Zi (pl:Int),Zi (pc:Int)]) uc:=fun X r e=>by
   rw[HK.out.2.1] at e
   obtain⟨z,rz,e1,e2⟩:=PR.bind_inv e
   cases e2
   rw[huc]
   exact okSt_new (p:=(pl,pc)) 9 [] ((HVx.out.set okE_f) x0 _ HGe.out.1) (okE_zero _ _) ((HVb.out.set okSs_f) b0 r0 HGe.out.2.1) ((HVe.out.set okSs_f) z _ e1)
  go_upto_region 14 with fail
  rw[← huc]
  clear huc e17 f17 HS
  have hrg:=Row20.range HSz.out.d
  have hz:uc.heap[RR]? = some (.cells #[Zi 0,Ze,Zi 0,Zi 0,Zi 0,Ze,Zn,Zi 0,Zi 0,Zi 0,Zi 0,Zi 0,Ze,Zn,Zi 0,Zi 0,Zn,Zn,Zi 0,Zi 0] 117 (0,0)):=HZt.out▸HSz.out.r
  have HF:=Zh (dres20 (P':=New noB w.heap.size) (show DQ w uc pb al L en nest G from by rw[HK.out.2.1];exact (HSz.out.like (like_unit s4 _)).q) HSz.out.l0 hz ⟨_,_,_,_,_,_,_,_,_,_,_,_,_,_,_,_,_,_,_,_,_,_,_,_,_,_,_,_,rfl⟩ okSt_f hv (fun k hk=>⟨.inr (Nat.le_of_lt (Nat.lt_of_le_of_lt HSz.out.l0 hk.1)),Nat.ne_of_gt hk.1⟩))
  clear HSz HVx HVb hv HA0 HGe HNe HD2 HZt HBa HRs HVe HK HRr
  go_wp2_with (first | (refine wpList_load_mid rfl 117 _ rfl BT 0 rfl [Zi 9,Ze,Zi xk,Zi xo,Zi xn,.string xs,.slice xa xq xc,Zi xl,Zi xm,Zi 0,Zi 0,Zi 0,Ze,Zn,Zi 0,Zi 0,.slice ba bq bc,.slice ea eq ec,Zi (pl:Int),Zi (pc:Int)] _ hrg Tryz.underlying117 rfl (by kernel_rfl) ?_) | (refine wpList_store_row rfl 117 _ _ rfl RR #[Zi 9,Ze,Zi xk,Zi xo,Zi xn,.string xs,.slice xa xq xc,Zi xl,Zi xm,Zi 0,Zi 0,Zi 0,Ze,Zn,Zi 0,Zi 0,.slice ba bq bc,.slice ea eq ec,Zi (pl:Int),Zi (pc:Int)] rfl rfl 117 _ hz (by kernel_rfl) rfl (by kernel_rfl) ?_))
  obtain⟨h1,h2⟩:=HF.out
  clear HF hz hrg
  generalize uc.setRow RR #[Zi 9,Ze,Zi xk,Zi xo,Zi xn,.string xs,.slice xa xq xc,Zi xl,Zi xm,Zi 0,Zi 0,Zi 0,Ze,Zn,Zi 0,Zi 0,.slice ba bq bc,.slice ea eq ec,Zi (pl:Int),Zi (pc:Int)]=W7 at h1 h2 ⊢
  exact bodyPost_ret (v:=.agg #[Zi 9,Ze,Zi xk,Zi xo,Zi xn,.string xs,.slice xa xq xc,Zi xl,Zi xm,Zi 0,Zi 0,Zi 0,Ze,Zn,Zi 0,Zi 0,.slice ba bq bc,.slice ea eq ec,Zi (pl:Int),Zi (pc:Int)]) (res_cell Tryz.results118 rfl h1.load) rfl h2
 have hn2:nest≤200:=HS.out.q.ds.1
 obtain⟨s3,hs3⟩:=nm ((PR.ok () r0.tail:PR Unit).bind fun _ t=>pOp en nest [105,102] t)
 obtain⟨s4,hs4⟩:=nm (s3.bind fun _ t=>pCo en f (nest+1) (rl,rc) t)
 have HK:Hid (s4=(s3.bind fun _ t=>pCo en f (nest+1) (rl,rc) t)∧(G=s4.bind fun z r4=>.ok (St.mk 9 [] x0 ex0 b0 [z] (pl,pc)) r4)∧s4≠.er (0,0) 0):=Zh (by
  have hge:G=s4.bind fun z r4=>.ok (St.mk 9 [] x0 ex0 b0 [z] (pl,pc)) r4:=by
   have e1:pOt en f nest r0.tail=s4.bind fun z r4=>.ok [z] r4:=by
    unfold pOt
    rw[if_pos hnx2,pOpen_op en nest [105,102] r0.tail hnx2,hs4,hs3,HRr.out]
    rfl
   rw[HGe.out.2.2,e1,PR.bind_assoc]
   rfl
  exact⟨hs4,hge,fun h=>HNe.out (by rw[hge,h];rfl)⟩)
 obtain⟨n1,hn1⟩:∃n1:Int,n1=((nest+1:Nat):Int):=⟨_,rfl⟩
 have hw:IntKind.i64.wrap (n1 - 1)=(nest:Int):=by rw[IntKind.wrap_i64];omega
 have HN1:=Zh hn1
 have h:=peek_any u8 pb al L en nest (PR.ok () r0.tail:PR Unit) HS.out.q.ds
 rw[pk_of' HS.out.q.ds hL (by decide) hnx2] at h
 have HPk:Hid (Calls Tryz.prog 56 #[Zp pb] u8 (fun e w2=>e=.returned (.string ⟨#[105,102]⟩)∧Below u8.heap.size u8 w2)):=Zh h
 clear h hs4 hn1 hnx2
 go_wp2_with fail
 refine HPk.out.mono ?_
 rintro e u9 ⟨rfl,hb⟩
 replace HVx:=Zh (HVx.out.bel okE_f hb)
 replace HVb:=Zh (HVb.out.bel okSs_f hb)
 replace HA:=Zh (HA.out.kept hb)
 replace HS:=Zh (HS.out.bel hb)
 clear hb HPk
 go_wp2_with fail
 refine (show Calls Tryz.prog 58 #[Zp pb,.string ⟨#[105,102]⟩] u9 (fun e w'=>e=.returned (.tuple #[])∧DS w' pb al L en (nest+1) s3∧T1 pb u9 w') from by rw[hs3];exact dopens_any u9 pb al L en nest (.ok () r0.tail) [105,102] hL hlen (by omega) (by decide) HS.out.q.ds).mono ?_
 rintro e ub ⟨rfl,hds,ht⟩
 replace HVx:=Zh (HVx.out.t1 okE_f ht HS.out.ne)
 replace HVb:=Zh (HVb.out.t1 okSs_f ht HS.out.ne)
 replace HA:=Zh (HA.out.t1 ht (Nat.ne_of_gt HBa.out.2))
 replace HS:=Zh (HS.out.call ht hds)
 clear hds ht hs3
 obtain⟨⟨a0,a1⟩,_⟩:=HA.out.cells
 go_wp2_with fail
 refine (show Calls Tryz.prog 118 #[Zp pb,.agg #[Zi (rl:Int),Zi (rc:Int)]] ub (DP A20 ub pb al L en (nest+1) s4 (okSt (New noB ub.heap.size))) from by rw[HK.out.1];exact HD2.out ub s3 (nest+1) (rl,rc) (by omega) HS.out.q.ds (by rw[← HK.out.1];exact HK.out.2.2)).mono ?_
 rintro e uc ⟨_,rfl,⟨zk,zxk,zxo,zxn,zxl,zxc,zyk,zyo,zyn,zyl,zyc,zl,zc,zs,zxs,zys,zxa,zya,zba,zea,zxq,zxqc,zyq,zyqc,zbq,zbqc,zeq,zeqc,rfl⟩,hds,ht,hv⟩
 have HVz:=Zh (HS.out.val okSt_f hv)
 replace HVx:=Zh (HVx.out.t1 okE_f ht HS.out.ne)
 replace HVb:=Zh (HVb.out.t1 okSs_f ht HS.out.ne)
 replace HS:=Zh (HS.out.call ht hds)
 clear hds ht hv a0 a1 HA
 obtain⟨uz,huz⟩:=nm (uc.alloc (.cells #[Zi 0,Ze,Zi 0,Zi 0,Zi 0,Ze,Zn,Zi 0,Zi 0,Zi 0,Zi 0,Zi 0,Ze,Zn,Zi 0,Zi 0,Zn,Zn,Zi 0,Zi 0] 117))
 obtain⟨ud,hud⟩:=nm (uc.alloc (.cells #[Zi zk,.string zs,Zi zxk,Zi zxo,Zi zxn,.string zxs,.slice zxa zxq zxqc,Zi zxl,Zi zxc,Zi zyk,Zi zyo,Zi zyn,.string zys,.slice zya zyq zyqc,Zi zyl,Zi zyc,.slice zba zbq zbqc,.slice zea zeq zeqc,Zi zl,Zi zc] 117))
 obtain⟨BZ,hBZ⟩:=nm uc.heap.size
 have hzz:uz.heap[BZ]? = some (.cells #[Zi 0,Ze,Zi 0,Zi 0,Zi 0,Ze,Zn,Zi 0,Zi 0,Zi 0,Zi 0,Zi 0,Ze,Zn,Zi 0,Zi 0,Zn,Zn,Zi 0,Zi 0] 117 (0,0)):=by rw[huz,hBZ];exact heap_alloc_new _ _ rfl
 have hW2:uz.setRow BZ #[Zi zk,.string zs,Zi zxk,Zi zxo,Zi zxn,.string zxs,.slice zxa zxq zxqc,Zi zxl,Zi zxc,Zi zyk,Zi zyo,Zi zyn,.string zys,.slice zya zyq zyqc,Zi zyl,Zi zyc,.slice zba zbq zbqc,.slice zea zeq zeqc,Zi zl,Zi zc]=ud:=by rw[huz,hBZ,hud];exact World.setRow_alloc_new _ _ _ _
 have hb:Below uc.heap.size uc ud:=by rw[hud];exact bel_al _ _
 have hrow:ud.heap[BZ]? = some (.cells #[Zi zk,.string zs,Zi zxk,Zi zxo,Zi zxn,.string zxs,.slice zxa zxq zxqc,Zi zxl,Zi zxc,Zi zyk,Zi zyo,Zi zyn,.string zys,.slice zya zyq zyqc,Zi zyl,Zi zyc,.slice zba zbq zbqc,.slice zea zeq zeqc,Zi zl,Zi zc] 117 (0,0)):=by rw[hud,hBZ];exact heap_alloc_new _ _ rfl
 replace HVx:=Zh (HVx.out.bel okE_f hb)
 replace HVb:=Zh (HVb.out.bel okSs_f hb)
 replace HVz:=Zh (HVz.out.bel okSt_f hb)
 have HBz:Hid (uc.heap.size≤BZ):=Zh (Nat.le_of_eq hBZ.symm)
 replace HBz:Hid (pb < BZ):=Zh (by have:=HBz.out;have:=HS.out.q.ds.lt;omega)
 replace HS:=Zh (HS.out.bel hb)
 clear hb hud
 go_upto_region 10 with (first | (rw[← huz,← hBZ];refine wpList_store_row rfl 117 _ _ rfl BZ #[Zi zk,.string zs,Zi zxk,Zi zxo,Zi zxn,.string zxs,.slice zxa zxq zxqc,Zi zxl,Zi zxc,Zi zyk,Zi zyo,Zi zyn,.string zys,.slice zya zyq zyqc,Zi zyl,Zi zyc,.slice zba zbq zbqc,.slice zea zeq zeqc,Zi zl,Zi zc] rfl rfl 117 _ hzz (by kernel_rfl) rfl (by kernel_rfl) ?_))
 rw[hW2]
 clear hW2 hzz huz hBZ
 have HZr:=Zh hrow
 clear hrow
 obtain⟨c7,f7⟩:=HS.out.q.ds.cell7
 obtain⟨ue,hue⟩:=nm (ud.setCell ⟨pb,7,none⟩ (Zi (nest:Int)))
 have ht:T1 pb ud ue:=by rw[hue];exact T1.set
 have hds:=by have h:=HS.out.q.ds.nest nest (fun y ts e=>hn2);rw[← hue] at h;exact h
 rw[← HN1.out] at c7
 replace HVx:=Zh (HVx.out.t1 okE_f ht HS.out.ne)
 replace HVb:=Zh (HVb.out.t1 okSs_f ht HS.out.ne)
 replace HVz:=Zh (HVz.out.t1 okSt_f ht HS.out.ne)
 have hrz:=Row20.range ((ht.block BZ (blk_lt HZr.out) (Nat.ne_of_gt HBz.out)).trans HZr.out)
 replace HS:=Zh (HS.out.call ht hds)
 clear ht hds HZr
 go_upto_region 11 with fail
 rw[← hue]
 clear hue c7 f7
 have hlit:=row_lit ue 117 20 [Zi zk,.string zs,Zi zxk,Zi zxo,Zi zxn,.string zxs,.slice zxa zxq zxqc,Zi zxl,Zi zxc,Zi zyk,Zi zyo,Zi zyn,.string zys,.slice zya zyq zyqc,Zi zyl,Zi zyc,.slice zba zbq zbqc,.slice zea zeq zeqc,Zi zl,Zi zc] rfl
 obtain⟨uf,huf⟩:=nm (ue.alloc (.cells #[Zi zk,.string zs,Zi zxk,Zi zxo,Zi zxn,.string zxs,.slice zxa zxq zxqc,Zi zxl,Zi zxc,Zi zyk,Zi zyo,Zi zyn,.string zys,.slice zya zyq zyqc,Zi zyl,Zi zyc,.slice zba zbq zbqc,.slice zea zeq zeqc,Zi zl,Zi zc] 117))
 have hb:Below ue.heap.size ue uf:=by rw[huf];exact bel_al _ _
 have HVe:Hid (OV okSs (NB RR BT) (s4.bind fun z r4=>.ok [z] r4) (.slice (some ⟨ue.heap.size,0,none⟩) 1 1) uf):=Zh fun X r e=>by
  obtain⟨z,rz,e1,e2⟩:=PR.bind_inv e
  cases e2
  have hz:=okSt_list (okSt_f (NB RR BT) (NB RR BT) _ _ _ _ (HVz.out z _ e1) (fun _ q=>q) (fun k hk hl=>hb.block k hl))
  have ho:uf.ownsRow 0 117 20 (.slice (some ⟨ue.heap.size,0,none⟩) 1 1) 1 [Zi zk,.string zs,Zi zxk,Zi zxo,Zi zxn,.string zxs,.slice zxa zxq zxqc,Zi zxl,Zi zxc,Zi zyk,Zi zyo,Zi zyn,.string zys,.slice zya zyq zyqc,Zi zyl,Zi zyc,.slice zba zbq zbqc,.slice zea zeq zeqc,Zi zl,Zi zc]:=by rw[huf];exact ownsRow_mono hlit (Nat.zero_le _)
  exact .row _ _ _ ho (fun g hg=>by
   have hg:some ue.heap.size=some g:=hg
   cases hg
   have h1:=HS.out.l1
   have h2:=HS.out.l2
   exact⟨by omega,by omega⟩) hz
 replace HVx:=Zh (HVx.out.bel okE_f hb)
 replace HVb:=Zh (HVb.out.bel okSs_f hb)
 replace HS:=Zh (HS.out.bel hb)
 clear hlit HVz hb
 obtain⟨_,_,_,_,_,_,_,_,_,_,_,_,_,_,_,_,_,e17,_⟩:=Row20.cells HS.out.d
 obtain⟨_,_,_,_,_,_,_,_,_,_,_,_,_,_,_,_,_,f17,_⟩:=Row20.frz HS.out.d
 obtain⟨ug,hug⟩:=nm (uf.setCell ⟨BT,17,none⟩ (.slice (some ⟨ue.heap.size,0,none⟩) 1 1))
 have HSz:Hid (PQ w ug pb al L en nest s4 RR BT zT (.cells #[Zi 9,Ze,Zi xk,Zi xo,Zi xn,.string xs,.slice xa xq xc,Zi xl,Zi xm,Zi 0,Zi 0,Zi 0,Ze,Zn,Zi 0,Zi 0,.slice ba bq bc,.slice (some ⟨ue.heap.size,0,none⟩) 1 1,Zi (pl:Int),Zi (pc:Int)] 117 (0,0))):=Zh (by rw[hug];exact HS.out.t17)
 have hv:OV okSt (NB RR BT) G (.agg #[Zi 9,Ze,Zi xk,Zi xo,Zi xn,.string xs,.slice xa xq xc,Zi xl,Zi xm,Zi 0,Zi 0,Zi 0,Ze,Zn,Zi 0,Zi 0,.slice ba bq bc,.slice (some ⟨ue.heap.size,0,none⟩) 1 1,Zi (pl:Int),Zi (pc:Int)]) ug:=fun X r e=>by
  rw[HK.out.2.1] at e
  obtain⟨z,rz,e1,e2⟩:=PR.bind_inv e
  cases e2
  rw[hug]
  exact okSt_new (p:=(pl,pc)) 9 [] ((HVx.out.set okE_f) x0 _ HGe.out.1) (okE_zero _ _) ((HVb.out.set okSs_f) b0 r0 HGe.out.2.1) ((HVe.out.set okSs_f) [z] _ (by rw[e1];rfl))
 subst huf
 go_upto_region 12 with (first | (refine wpList_load_mid rfl 117 _ rfl BZ 0 rfl [Zi zk,.string zs,Zi zxk,Zi zxo,Zi zxn,.string zxs,.slice zxa zxq zxqc,Zi zxl,Zi zxc,Zi zyk,Zi zyo,Zi zyn,.string zys,.slice zya zyq zyqc,Zi zyl,Zi zyc,.slice zba zbq zbqc,.slice zea zeq zeqc,Zi zl,Zi zc] _ hrz Tryz.underlying117 rfl (by kernel_rfl) ?_))
 rw[← hug]
 clear hug e17 f17 hrz HS
 have hrg:=Row20.range HSz.out.d
 have hz:ug.heap[RR]? = some (.cells #[Zi 0,Ze,Zi 0,Zi 0,Zi 0,Ze,Zn,Zi 0,Zi 0,Zi 0,Zi 0,Zi 0,Ze,Zn,Zi 0,Zi 0,Zn,Zn,Zi 0,Zi 0] 117 (0,0)):=HZt.out▸HSz.out.r
 have HF:=Zh (dres20 (P':=New noB w.heap.size) (show DQ w ug pb al L en nest G from by rw[HK.out.2.1];exact (HSz.out.like (like_unit s4 _)).q) HSz.out.l0 hz ⟨_,_,_,_,_,_,_,_,_,_,_,_,_,_,_,_,_,_,_,_,_,_,_,_,_,_,_,_,rfl⟩ okSt_f hv (fun k hk=>⟨.inr (Nat.le_of_lt (Nat.lt_of_le_of_lt HSz.out.l0 hk.1)),Nat.ne_of_gt hk.1⟩))
 clear HSz HVx HVb hv HA0 HGe HNe HD2 HZt HBa HRs HVe HK HRr HBz HN1 hw
 go_wp2_with (first | (refine wpList_load_mid rfl 117 _ rfl BT 0 rfl [Zi 9,Ze,Zi xk,Zi xo,Zi xn,.string xs,.slice xa xq xc,Zi xl,Zi xm,Zi 0,Zi 0,Zi 0,Ze,Zn,Zi 0,Zi 0,.slice ba bq bc,.slice (some ⟨ue.heap.size,0,none⟩) 1 1,Zi (pl:Int),Zi (pc:Int)] _ hrg Tryz.underlying117 rfl (by kernel_rfl) ?_) | (refine wpList_store_row rfl 117 _ _ rfl RR #[Zi 9,Ze,Zi xk,Zi xo,Zi xn,.string xs,.slice xa xq xc,Zi xl,Zi xm,Zi 0,Zi 0,Zi 0,Ze,Zn,Zi 0,Zi 0,.slice ba bq bc,.slice (some ⟨ue.heap.size,0,none⟩) 1 1,Zi (pl:Int),Zi (pc:Int)] rfl rfl 117 _ hz (by kernel_rfl) rfl (by kernel_rfl) ?_))
 obtain⟨h1,h2⟩:=HF.out
 clear HF hz hrg
 generalize ug.setRow RR #[Zi 9,Ze,Zi xk,Zi xo,Zi xn,.string xs,.slice xa xq xc,Zi xl,Zi xm,Zi 0,Zi 0,Zi 0,Ze,Zn,Zi 0,Zi 0,.slice ba bq bc,.slice (some ⟨ue.heap.size,0,none⟩) 1 1,Zi (pl:Int),Zi (pc:Int)]=W7 at h1 h2 ⊢
 exact bodyPost_ret (v:=.agg #[Zi 9,Ze,Zi xk,Zi xo,Zi xn,.string xs,.slice xa xq xc,Zi xl,Zi xm,Zi 0,Zi 0,Zi 0,Ze,Zn,Zi 0,Zi 0,.slice ba bq bc,.slice (some ⟨ue.heap.size,0,none⟩) 1 1,Zi (pl:Int),Zi (pc:Int)]) (res_cell Tryz.results118 rfl h1.load) rfl h2
end Go.Proofs.YtlfooogmoigpfaaGreatDoor
