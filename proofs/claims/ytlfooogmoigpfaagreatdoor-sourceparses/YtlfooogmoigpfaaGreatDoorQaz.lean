import Derived.Test.YtlfooogmoigpfaaGreatDoorQay
import Derived.Test.YtlfooogmoigpfaaGreatDoorQaa
set_option maxRecDepth 100000
set_option maxHeartbeats 8000000
namespace Go.Proofs.YtlfooogmoigpfaaGreatDoor
open Go.RowKit Go.Sort Go.Shelf
theorem els_at {α:Type} {okv:(Nat→Prop)→α→Value→World→Prop} {sz:Nat} {P:Nat→Prop} {W:World} : ∀{l:List α} {cs:List Value},Els okv sz P W l cs→∀{i:Nat} (hi:i < l.length),∃a:List Value,a.length=sz∧okv P l[i] (.agg a.toArray) W∧∀j,j < sz→cs[i * sz+j]? = a[j]?
 | [],_,_,i,hi=>absurd hi (Nat.not_lt_zero i)
 | x :: r,cs,⟨a,ds,e,hl,h1,h2⟩,0,hi=>⟨a,hl,h1,fun j hj=>by
   rw[e,Nat.zero_mul,Nat.zero_add]
   exact List.getElem?_append_left (by omega)⟩
 | x :: r,cs,⟨a,ds,e,hl,h1,h2⟩,i+1,hi=>by
  obtain⟨b,hb,hv,hc⟩:=els_at h2 (i:=i) (Nat.lt_of_succ_lt_succ hi)
  refine⟨b,hb,hv,fun j hj=>?_⟩
  rw[e,List.getElem?_append_right (by rw[hl,Nat.succ_mul];omega),show (i+1) * sz+j - a.length=i * sz+j by rw[hl,Nat.succ_mul];omega]
  exact hc j hj
theorem els_len {α:Type} {okv:(Nat→Prop)→α→Value→World→Prop} {sz:Nat} {P:Nat→Prop} {W:World} : ∀{l:List α} {cs:List Value},Els okv sz P W l cs→cs.length=l.length * sz
 | [],cs,h=>by
  have h:cs=[]:=h
  rw[h]
  simp
 | x :: r,cs,⟨a,ds,e,hl,h1,h2⟩=>by
  rw[e,List.length_append,els_len h2,hl,List.length_cons,Nat.succ_mul]
  omega
theorem row_els {α:Type} {okv:(Nat→Prop)→α→Value→World→Prop} {T sz:Nat} {P:Nat→Prop} {W:World} {l:List α} {cs:List Value} {v:Value} (h:W.ownsRow 0 T sz v l.length cs) (he:Els okv sz P W l cs) {i:Nat} (hi:i < l.length):∃g c a,v=.slice (some ⟨g,0,none⟩) l.length c∧okv P l[i] (.agg (List.toArray a)) W∧W.rangeAt g (i * sz) a:=by
 have h0:=h
 obtain⟨hl,⟨_,e⟩ | ⟨g,c,cur,rfl,_⟩⟩:=h
 ·omega
 ·obtain⟨a,ha,hv,hc⟩:=els_at he hi
  refine⟨g,c,a,rfl,hv,fun j u hu=>?_⟩
  have hj:j < sz:=by
   have:=(List.getElem?_eq_some_iff.mp hu).1
   omega
  have hln:=els_len he
  have h3:i * sz+sz≤l.length * sz:=by rw[← Nat.succ_mul];exact Nat.mul_le_mul_right _ hi
  exact ((World.ownsRow.cellAt h0 (i * sz+j) (by omega)).trans (hc j hj)).trans hu
theorem toA {a b:List Value} (h:Value.agg a.toArray=.agg b.toArray):a=b:=by
 simpa using h
theorem co_at {P:Nat→Prop} {W:World} {s:SrcS} {cv pv:Value} (h:okSrc P s (.agg #[cv,pv]) W) {i:Nat} (hi:i < s.consts.length):∃g c x0 x1 x2 x3 x4 x5 x6,cv=.slice (some ⟨g,0,none⟩) s.consts.length c∧okE P s.consts[i].2.1 (.agg #[x0,x1,x2,x3,x4,x5,x6]) W∧W.rangeAt g (i * 10) [.string (S s.consts[i].1),x0,x1,x2,x3,x4,x5,x6,Zi (s.consts[i].2.2.1:Int),Zi (s.consts[i].2.2.2:Int)]:=by
 obtain⟨cv',pv',cs,ps,e,h1,h2,h3,h4,h5,h6⟩:=h
 have e:=toA (a:=[cv,pv]) (b:=[cv',pv']) e
 simp only[List.cons.injEq,and_true] at e
 obtain⟨rfl,rfl⟩:=e
 obtain⟨g,c,a,e,hv,hr⟩:=row_els h1 h5 hi
 obtain⟨x0,x1,x2,x3,x4,x5,x6,e2,hx⟩:=hv
 have e2:=toA e2
 subst e2
 exact⟨g,c,x0,x1,x2,x3,x4,x5,x6,e,hx,hr⟩
theorem pr_at {P:Nat→Prop} {W:World} {s:SrcS} {cv pv:Value} (h:okSrc P s (.agg #[cv,pv]) W) {i:Nat} (hi:i < s.procs.length):∃g c a r w b,pv=.slice (some ⟨g,0,none⟩) s.procs.length c∧okNs P s.procs[i].args a W∧okNs P s.procs[i].reads r W∧okNs P s.procs[i].writes w W∧RwS P W s.procs[i].body b∧W.rangeAt g (i * 7) [.string (S s.procs[i].name),a,r,w,b,Zi (s.procs[i].at_.1:Int),Zi (s.procs[i].at_.2:Int)]:=by
 obtain⟨cv',pv',cs,ps,e,h1,h2,h3,h4,h5,h6⟩:=h
 have e:=toA (a:=[cv,pv]) (b:=[cv',pv']) e
 simp only[List.cons.injEq,and_true] at e
 obtain⟨rfl,rfl⟩:=e
 obtain⟨g,c,a,e,hv,hr⟩:=row_els h2 h6 hi
 obtain⟨a0,r0,w0,b0,e2,k1,k2,k3,k4⟩:=hv
 have e2:=toA e2
 subst e2
 exact⟨g,c,a0,r0,w0,b0,e,k1,k2,k3,k4,hr⟩
theorem src_sl {P:Nat→Prop} {W:World} {s:SrcS} {v:Value} (h:okSrc P s v W):∃ca cc pa pc,v=.agg #[.slice ca s.consts.length cc,.slice pa s.procs.length pc]∧s.consts.length≤9223372036854775807∧s.procs.length≤9223372036854775807:=by
 obtain⟨cv,pv,cs,ps,rfl,h1,h2,_⟩:=h
 have l1:=own_len h1
 have l2:=own_len h2
 obtain⟨ca,cc,rfl,_⟩:=own_slice h1
 obtain⟨pa,pc,rfl,_⟩:=own_slice h2
 exact⟨ca,cc,pa,pc,rfl,l1,l2⟩
def BdSrc (s:SrcS):Prop:=(∀c,c∈s.consts→BdE c.2.1)∧∀p,p∈s.procs→∀t,t∈p.body→BdS t
theorem same_src (w:World) (s0:SrcS) (hbd:BdSrc s0) (P Q:Nat→Prop) (va vb:Value) (ha:okSrc P s0 va w) (hb:okSrc Q s0 vb w):Calls Tryz.prog 7 #[va,vb,.bool true] w fun e w'=>e=.returned (.bool true)∧Below w.heap.size w w':=by
 obtain⟨ca,cc1,pa,pc1,rfl,hl1,hl2⟩:=src_sl ha
 obtain⟨cb,cc2,pb,pc2,rfl,_,_⟩:=src_sl hb
 obtain⟨N,hN⟩:=nm (s0.consts.length)
 obtain⟨M,hM⟩:=nm (s0.procs.length)
 have HN:=Zh hN
 have HM:=Zh hM
 have hl9:N≤9223372036854775807:=by rw[hN];exact hl1
 have hm9:M≤9223372036854775807:=by rw[hM];exact hl2
 rw[← hN,← hM] at ha hb
 obtain⟨W2,hW2⟩:=nm ((w.alloc (.cells #[.slice ca N cc1,.slice pa M pc1] 25)).alloc (.cells #[.slice cb N cc2,.slice pb M pc2] 25))
 have hbW:Below w.heap.size w W2:=by rw[hW2];exact ((Below.refl _ _).alloc (Nat.le_refl _) _).alloc (by simp) _
 have h1:RowS W2 w.heap.size (.slice ca N cc1) (.slice pa M pc1):=by rw[hW2];exact (heap_alloc_old _ _ (by simp)).trans (heap_alloc_new _ _ rfl)
 have h2:RowS W2 (w.heap.size+1) (.slice cb N cc2) (.slice pb M pc2):=by rw[hW2];exact heap_alloc_new _ _ (by simp)
 have HX:Hid (∀U,Below W2.heap.size W2 U→(U.cell? ⟨w.heap.size,0,none⟩=some (.slice ca N cc1)∧U.cell? ⟨w.heap.size,1,none⟩=some (.slice pa M pc1))∧U.cell? ⟨w.heap.size+1,0,none⟩=some (.slice cb N cc2)∧U.cell? ⟨w.heap.size+1,1,none⟩=some (.slice pb M pc2)):=Zh fun U hU=>⟨(h1.kept hU).cells,(h2.kept hU).cells⟩
 have HA:Hid (∀U,Below W2.heap.size W2 U→okSrc P s0 (.agg #[.slice ca N cc1,.slice pa M pc1]) U):=Zh fun U hU=>by
  have h9:=hbW.trans (hU.mono hbW.size)
  exact okSrc_f _ _ _ _ _ _ ha (fun _ q=>q) (fun k _ hk=>h9.block k hk)
 have HB:Hid (∀U,Below W2.heap.size W2 U→okSrc Q s0 (.agg #[.slice cb N cc2,.slice pb M pc2]) U):=Zh fun U hU=>by
  have h9:=hbW.trans (hU.mono hbW.size)
  exact okSrc_f _ _ _ _ _ _ hb (fun _ q=>q) (fun k _ hk=>h9.block k hk)
 have HW:=Zh hbW
 have HBd:=Zh hbd
 rw[← hN,← hM]
 obtain⟨⟨z0,z1⟩,z2,z3⟩:=HX.out W2 (Below.refl _ _)
 clear ha hb hN hM hl1 hl2 hbW h1 h2 hbd
 go_enter Tryz.func7,Tryz.ntmps7
 go_upto_region 1 with fail
 rw[← hW2]
 clear hW2
 go_wp2_with fail
 clear z0 z1 z2 z3
 go_loopw[7] (fun x wr=>∃(i:Nat),i≤N∧x=Zi (i:Int)∧Below W2.heap.size W2 wr) (fun x _=>N - (intOf x).toNat)
 case atStart=>exact⟨0,Nat.zero_le _,rfl,Below.refl _ _⟩
 case round=>
  obtain⟨i,hi,rfl,hbr⟩:=hrel
  have HBr:=Zh hbr
  obtain⟨⟨z0,z1⟩,z2,z3⟩:=HX.out wr hbr
  clear z1 z3 hbr
  by_cases hlt:i < N
  ·have hil:i < s0.consts.length:=by have:=HN.out;omega
   obtain⟨g1,d1,x0,x1,x2,x3,x4,x5,x6,e1,ax,rg1⟩:=co_at (HA.out wr HBr.out) hil
   obtain⟨g2,d2,u0,u1,u2,u3,u4,u5,u6,e2,bx,rg2⟩:=co_at (HB.out wr HBr.out) hil
   have hbx:=HBd.out.1 _ (List.getElem_mem hil)
   obtain⟨xk,xo,xn,xl,xc,xs,xa,xq,xr,ex⟩:=okE_7 _ _ _ _ ax
   simp only[Value.agg.injEq,Array.mk.injEq,List.cons.injEq,and_true] at ex
   obtain⟨rfl,rfl,rfl,rfl,rfl,rfl,rfl⟩:=ex
   obtain⟨uk,uo,un,ul,uc,us,ua,uq,ur,ex⟩:=okE_7 _ _ _ _ bx
   simp only[Value.agg.injEq,Array.mk.injEq,List.cons.injEq,and_true] at ex
   obtain⟨rfl,rfl,rfl,rfl,rfl,rfl,rfl⟩:=ex
   simp only[Value.slice.injEq] at e1 e2
   have e11:=e1.1
   have e21:=e2.1
   clear e1 e2
   subst e11 e21
   generalize s0.consts[i]=q0 at ax bx rg1 rg2 hbx
   obtain⟨qn,qx,ql⟩:=q0
   simp only at ax bx rg1 rg2 hbx
   generalize S qn=s at rg1 rg2
   generalize (ql.1:Int)=lc at rg1 rg2
   generalize (ql.2:Int)=cc at rg1 rg2
   obtain⟨uz,huz⟩:=nm (wr.alloc (.cells #[Ze,Zi 0,Zi 0,Zi 0,Ze,Zn,Zi 0,Zi 0,Zi 0,Zi 0] 68))
   obtain⟨w1,hw1⟩:=nm (wr.alloc (.cells #[.string s,Zi xk,Zi xo,Zi xn,.string xs,.slice xa xq xr,Zi xl,Zi xc,Zi lc,Zi cc] 68))
   obtain⟨A1,hA1⟩:=nm (wr.heap.size)
   have hzz:uz.heap[A1]? = some (.cells #[Ze,Zi 0,Zi 0,Zi 0,Ze,Zn,Zi 0,Zi 0,Zi 0,Zi 0] 68 (0,0)):=by rw[huz,hA1];exact heap_alloc_new _ _ rfl
   have hWa:uz.setRow A1 #[.string s,Zi xk,Zi xo,Zi xn,.string xs,.slice xa xq xr,Zi xl,Zi xc,Zi lc,Zi cc]=w1:=by rw[huz,hA1,hw1];exact World.setRow_alloc_new _ _ _ _
   have hb1:Below wr.heap.size wr w1:=by rw[hw1];exact bel_al _ _
   have k1:w1.heap[A1]? = some (.cells #[.string s,Zi xk,Zi xo,Zi xn,.string xs,.slice xa xq xr,Zi xl,Zi xc,Zi lc,Zi cc] 68 (0,0)):=by rw[hw1,hA1];exact heap_alloc_new _ _ rfl
   obtain⟨uy,huy⟩:=nm (w1.alloc (.cells #[Ze,Zi 0,Zi 0,Zi 0,Ze,Zn,Zi 0,Zi 0,Zi 0,Zi 0] 68))
   obtain⟨w2,hw2⟩:=nm (w1.alloc (.cells #[.string s,Zi uk,Zi uo,Zi un,.string us,.slice ua uq ur,Zi ul,Zi uc,Zi lc,Zi cc] 68))
   obtain⟨A2,hA2⟩:=nm (w1.heap.size)
   have hyy:uy.heap[A2]? = some (.cells #[Ze,Zi 0,Zi 0,Zi 0,Ze,Zn,Zi 0,Zi 0,Zi 0,Zi 0] 68 (0,0)):=by rw[huy,hA2];exact heap_alloc_new _ _ rfl
   have hWb:uy.setRow A2 #[.string s,Zi uk,Zi uo,Zi un,.string us,.slice ua uq ur,Zi ul,Zi uc,Zi lc,Zi cc]=w2:=by rw[huy,hA2,hw2];exact World.setRow_alloc_new _ _ _ _
   have hb2:Below w1.heap.size w1 w2:=by rw[hw2];exact bel_al _ _
   have k2:w2.heap[A2]? = some (.cells #[.string s,Zi uk,Zi uo,Zi un,.string us,.slice ua uq ur,Zi ul,Zi uc,Zi lc,Zi cc] 68 (0,0)):=by rw[hw2,hA2];exact heap_alloc_new _ _ rfl
   have hb12:Below wr.heap.size wr w2:=hb1.trans (hb2.mono hb1.size)
   have HB12:=Zh hb12
   have HC1:Hid (∀U,Below w2.heap.size w2 U→U.cell? ⟨A1,0,none⟩=some (.string s)∧U.cell? ⟨A1,1,none⟩=some (Zi xk)∧U.cell? ⟨A1,2,none⟩=some (Zi xo)∧U.cell? ⟨A1,3,none⟩=some (Zi xn)∧U.cell? ⟨A1,4,none⟩=some (.string xs)∧U.cell? ⟨A1,5,none⟩=some (.slice xa xq xr)∧U.cell? ⟨A1,6,none⟩=some (Zi xl)∧U.cell? ⟨A1,7,none⟩=some (Zi xc)∧U.cell? ⟨A1,8,none⟩=some (Zi lc)∧U.cell? ⟨A1,9,none⟩=some (Zi cc)):=Zh fun U hU=>by
    have q:=(hU.block _ (Nat.lt_of_lt_of_le (blk_lt k1) hb2.size)).trans ((hb2.block _ (blk_lt k1)).trans k1)
    refine⟨?_,?_,?_,?_,?_,?_,?_,?_,?_,?_⟩ <;> simp[World.cell?,q]
   have HC2:Hid (∀U,Below w2.heap.size w2 U→U.cell? ⟨A2,0,none⟩=some (.string s)∧U.cell? ⟨A2,1,none⟩=some (Zi uk)∧U.cell? ⟨A2,2,none⟩=some (Zi uo)∧U.cell? ⟨A2,3,none⟩=some (Zi un)∧U.cell? ⟨A2,4,none⟩=some (.string us)∧U.cell? ⟨A2,5,none⟩=some (.slice ua uq ur)∧U.cell? ⟨A2,6,none⟩=some (Zi ul)∧U.cell? ⟨A2,7,none⟩=some (Zi uc)∧U.cell? ⟨A2,8,none⟩=some (Zi lc)∧U.cell? ⟨A2,9,none⟩=some (Zi cc)):=Zh fun U hU=>by
    have q:=(hU.block _ (blk_lt k2)).trans k2
    refine⟨?_,?_,?_,?_,?_,?_,?_,?_,?_,?_⟩ <;> simp[World.cell?,q]
   have HXe:Hid (∀U,Below w2.heap.size w2 U→Calls Tryz.prog 19 #[.agg #[Zi xk,Zi xo,Zi xn,.string xs,.slice xa xq xr,Zi xl,Zi xc],.agg #[Zi uk,Zi uo,Zi un,.string us,.slice ua uq ur,Zi ul,Zi uc],.bool true] U fun e w'=>e=.returned (.bool true)∧Below U.heap.size U w'):=Zh fun U hU=>by
    have h9:=hb12.trans (hU.mono hb12.size)
    exact same_e hbx U P Q _ _ (okE_f _ _ _ _ _ _ ax (fun _ q=>q) (fun k _ hk=>h9.block k hk)) (okE_f _ _ _ _ _ _ bx (fun _ q=>q) (fun k _ hk=>h9.block k hk))
   have hrg1:wr.rangeAt g1 (i * 10) [.string s,Zi xk,Zi xo,Zi xn,.string xs,.slice xa xq xr,Zi xl,Zi xc,Zi lc,Zi cc]:=rg1
   have hrg2:w1.rangeAt g2 (i * 10) [.string s,Zi uk,Zi uo,Zi un,.string us,.slice ua uq ur,Zi ul,Zi uc,Zi lc,Zi cc]:=fun j u hu=>bel_cell hb1 (rg2 j u hu)
   have z9:=bel_cell hb1 z2
   have hsp:=run_neSp lc cc
   have hgd:=fun op a b=>run_guardSp op a b lc cc
   have hib:decide ((i:Int) < (N:Int))=true:=by simp;omega
   clear rg1 rg2 hb1 hb2 hb12 k1 k2 hbx ax bx hw1 hw2 z2
   go_upto_region 6 with fail
   go_upto_region 7 with (first | (refine wpList_load_mid rfl 68 _ rfl g1 (i * 10) rfl [.string s,Zi xk,Zi xo,Zi xn,.string xs,.slice xa xq xr,Zi xl,Zi xc,Zi lc,Zi cc] _ hrg1 Tryz.underlying68 rfl (by kernel_rfl) ?_) | (rw[← huz,← hA1];refine wpList_store_row rfl 68 _ _ rfl A1 #[.string s,Zi xk,Zi xo,Zi xn,.string xs,.slice xa xq xr,Zi xl,Zi xc,Zi lc,Zi cc] rfl rfl 68 _ hzz (by kernel_rfl) rfl (by kernel_rfl) ?_))
   rw[hWa]
   clear hWa hzz huz hA1 hrg1 z0
   go_upto_region 8 with (first | (refine wpList_load_mid rfl 68 _ rfl g2 (i * 10) rfl [.string s,Zi uk,Zi uo,Zi un,.string us,.slice ua uq ur,Zi ul,Zi uc,Zi lc,Zi cc] _ hrg2 Tryz.underlying68 rfl (by kernel_rfl) ?_) | (rw[← huy,← hA2];refine wpList_store_row rfl 68 _ _ rfl A2 #[.string s,Zi uk,Zi uo,Zi un,.string us,.slice ua uq ur,Zi ul,Zi uc,Zi lc,Zi cc] rfl rfl 68 _ hyy (by kernel_rfl) rfl (by kernel_rfl) ?_))
   rw[hWb]
   clear hWb hyy huy hA2 hrg2 z9
   obtain⟨a0,a1,a2,a3,a4,a5,a6,a7,a8,a9⟩:=HC1.out w2 (Below.refl _ _)
   obtain⟨b0,b1,b2,b3,b4,b5,b6,b7,b8,b9⟩:=HC2.out w2 (Below.refl _ _)
   have HX2:=Zh (HXe.out w2 (Below.refl _ _))
   go_wp2_with fail
   refine HX2.out.mono ?_
   rintro e w3 ⟨rfl,hb3⟩
   have HB3:=Zh hb3
   clear a0 b0 a1 b1 a2 b2 a3 b3 a4 b4 a5 b5 a6 b6 a7 b7 a8 b8 a9 b9 hb3
   go_wp2_with fail
   have h12:=HBr.out.trans (HB12.out.mono HBr.out.size)
   have hre:∃j,j≤N∧Zi ((i:Int)+1)=Zi (j:Int)∧Below W2.heap.size W2 w3:=⟨i+1,by omega,by go_num,h12.trans (HB3.out.mono h12.size)⟩
   refine⟨?_,?_⟩
   ·repeat refine⟨undef,?_⟩
    exact hre
   ·simp[intOf];omega
  ·have hie:i=N:=by omega
   subst hie
   have hib:decide ((i:Int) < (i:Int))=false:=by simp
   go_wp2_with fail
   clear z0 z2
   have HBq:=HBr
   go_loopw[10] (fun x ws=>∃(i:Nat),i≤M∧x=Zi (i:Int)∧Below W2.heap.size W2 ws) (fun x _=>M - (intOf x).toNat)
   case atStart=>exact⟨0,Nat.zero_le _,rfl,HBq.out⟩
   case round=>
    obtain⟨i,hi,rfl,hbr⟩:=hrel
    have HBr:=Zh hbr
    obtain⟨⟨z0,z1⟩,z2,z3⟩:=HX.out wr hbr
    clear z0 z2 hbr
    by_cases hlt:i < M
    ·have hil:i < s0.procs.length:=by have:=HM.out;omega
     obtain⟨g1,d1,x0,x1,x2,x3,e1,ax0,ax1,ax2,ax3,rg1⟩:=pr_at (HA.out wr HBr.out) hil
     obtain⟨g2,d2,u0,u1,u2,u3,e2,bx0,bx1,bx2,bx3,rg2⟩:=pr_at (HB.out wr HBr.out) hil
     have hbx:=HBd.out.2 _ (List.getElem_mem hil)
     obtain⟨x0a,x0q,x0r,rfl⟩:=okNs_s _ _ _ _ ax0
     obtain⟨u0a,u0q,u0r,rfl⟩:=okNs_s _ _ _ _ bx0
     obtain⟨x1a,x1q,x1r,rfl⟩:=okNs_s _ _ _ _ ax1
     obtain⟨u1a,u1q,u1r,rfl⟩:=okNs_s _ _ _ _ bx1
     obtain⟨x2a,x2q,x2r,rfl⟩:=okNs_s _ _ _ _ ax2
     obtain⟨u2a,u2q,u2r,rfl⟩:=okNs_s _ _ _ _ bx2
     obtain⟨x3a,x3q,x3r,rfl⟩:=okSs_s _ _ _ _ ax3
     obtain⟨u3a,u3q,u3r,rfl⟩:=okSs_s _ _ _ _ bx3
     simp only[Value.slice.injEq] at e1 e2
     have e11:=e1.1
     have e21:=e2.1
     clear e1 e2
     subst e11 e21
     generalize s0.procs[i]=q0 at ax0 ax1 ax2 ax3 bx0 bx1 bx2 bx3 rg1 rg2 hbx
     generalize S q0.name=s at rg1 rg2
     generalize (q0.at_.1:Int)=lc at rg1 rg2
     generalize (q0.at_.2:Int)=cc at rg1 rg2
     obtain⟨w1,hw1⟩:=nm (wr.alloc (.cells #[.string s,.slice x0a x0q x0r,.slice x1a x1q x1r,.slice x2a x2q x2r,.slice x3a x3q x3r,Zi lc,Zi cc] 73))
     obtain⟨A1,hA1⟩:=nm (wr.heap.size)
     have hb1:Below wr.heap.size wr w1:=by rw[hw1];exact bel_al _ _
     have k1:w1.heap[A1]? = some (.cells #[.string s,.slice x0a x0q x0r,.slice x1a x1q x1r,.slice x2a x2q x2r,.slice x3a x3q x3r,Zi lc,Zi cc] 73 (0,0)):=by rw[hw1,hA1];exact heap_alloc_new _ _ rfl
     obtain⟨w2,hw2⟩:=nm (w1.alloc (.cells #[.string s,.slice u0a u0q u0r,.slice u1a u1q u1r,.slice u2a u2q u2r,.slice u3a u3q u3r,Zi lc,Zi cc] 73))
     obtain⟨A2,hA2⟩:=nm (w1.heap.size)
     have hb2:Below w1.heap.size w1 w2:=by rw[hw2];exact bel_al _ _
     have k2:w2.heap[A2]? = some (.cells #[.string s,.slice u0a u0q u0r,.slice u1a u1q u1r,.slice u2a u2q u2r,.slice u3a u3q u3r,Zi lc,Zi cc] 73 (0,0)):=by rw[hw2,hA2];exact heap_alloc_new _ _ rfl
     have hb12:Below wr.heap.size wr w2:=hb1.trans (hb2.mono hb1.size)
     have HB12:=Zh hb12
     have HC1:Hid (∀U,Below w2.heap.size w2 U→U.cell? ⟨A1,0,none⟩=some (.string s)∧U.cell? ⟨A1,1,none⟩=some (.slice x0a x0q x0r)∧U.cell? ⟨A1,2,none⟩=some (.slice x1a x1q x1r)∧U.cell? ⟨A1,3,none⟩=some (.slice x2a x2q x2r)∧U.cell? ⟨A1,4,none⟩=some (.slice x3a x3q x3r)∧U.cell? ⟨A1,5,none⟩=some (Zi lc)∧U.cell? ⟨A1,6,none⟩=some (Zi cc)):=Zh fun U hU=>by
      have q:=(hU.block _ (Nat.lt_of_lt_of_le (blk_lt k1) hb2.size)).trans ((hb2.block _ (blk_lt k1)).trans k1)
      refine⟨?_,?_,?_,?_,?_,?_,?_⟩ <;> simp[World.cell?,q]
     have HC2:Hid (∀U,Below w2.heap.size w2 U→U.cell? ⟨A2,0,none⟩=some (.string s)∧U.cell? ⟨A2,1,none⟩=some (.slice u0a u0q u0r)∧U.cell? ⟨A2,2,none⟩=some (.slice u1a u1q u1r)∧U.cell? ⟨A2,3,none⟩=some (.slice u2a u2q u2r)∧U.cell? ⟨A2,4,none⟩=some (.slice u3a u3q u3r)∧U.cell? ⟨A2,5,none⟩=some (Zi lc)∧U.cell? ⟨A2,6,none⟩=some (Zi cc)):=Zh fun U hU=>by
      have q:=(hU.block _ (blk_lt k2)).trans k2
      refine⟨?_,?_,?_,?_,?_,?_,?_⟩ <;> simp[World.cell?,q]
     have HN0:Hid (∀U,Below w2.heap.size w2 U→Calls Tryz.prog 20 #[.slice x0a x0q x0r,.slice u0a u0q u0r,.bool true] U fun e w'=>e=.returned (.bool true)∧Below U.heap.size U w'):=Zh fun U hU=>by
      have h9:=hb12.trans (hU.mono hb12.size)
      exact same_n U P Q _ _ _ (okNs_f _ _ _ _ _ _ ax0 (fun _ q=>q) (fun k _ hk=>h9.block k hk)) (okNs_f _ _ _ _ _ _ bx0 (fun _ q=>q) (fun k _ hk=>h9.block k hk))
     have HN1:Hid (∀U,Below w2.heap.size w2 U→Calls Tryz.prog 20 #[.slice x1a x1q x1r,.slice u1a u1q u1r,.bool true] U fun e w'=>e=.returned (.bool true)∧Below U.heap.size U w'):=Zh fun U hU=>by
      have h9:=hb12.trans (hU.mono hb12.size)
      exact same_n U P Q _ _ _ (okNs_f _ _ _ _ _ _ ax1 (fun _ q=>q) (fun k _ hk=>h9.block k hk)) (okNs_f _ _ _ _ _ _ bx1 (fun _ q=>q) (fun k _ hk=>h9.block k hk))
     have HN2:Hid (∀U,Below w2.heap.size w2 U→Calls Tryz.prog 20 #[.slice x2a x2q x2r,.slice u2a u2q u2r,.bool true] U fun e w'=>e=.returned (.bool true)∧Below U.heap.size U w'):=Zh fun U hU=>by
      have h9:=hb12.trans (hU.mono hb12.size)
      exact same_n U P Q _ _ _ (okNs_f _ _ _ _ _ _ ax2 (fun _ q=>q) (fun k _ hk=>h9.block k hk)) (okNs_f _ _ _ _ _ _ bx2 (fun _ q=>q) (fun k _ hk=>h9.block k hk))
     have HN3:Hid (∀U,Below w2.heap.size w2 U→Calls Tryz.prog 21 #[.slice x3a x3q x3r,.slice u3a u3q u3r,.bool true] U fun e w'=>e=.returned (.bool true)∧Below U.heap.size U w'):=Zh fun U hU=>by
      have h9:=hb12.trans (hU.mono hb12.size)
      exact same_b _ hbx U P Q _ _ (ax3.kept (fun _ q=>q) (fun k _ hk=>h9.block k hk)) (bx3.kept (fun _ q=>q) (fun k _ hk=>h9.block k hk))
     have c0:wr.cell? ⟨g1,i * 7,none⟩=some (.string s):=rg1 0 _ rfl
     have e0:w1.cell? ⟨g2,i * 7,none⟩=some (.string s):=bel_cell hb1 (rg2 0 _ rfl)
     have c1:wr.cell? ⟨g1,i * 7+1,none⟩=some (.slice x0a x0q x0r):=rg1 1 _ rfl
     have e1:w1.cell? ⟨g2,i * 7+1,none⟩=some (.slice u0a u0q u0r):=bel_cell hb1 (rg2 1 _ rfl)
     have c2:wr.cell? ⟨g1,i * 7+2,none⟩=some (.slice x1a x1q x1r):=rg1 2 _ rfl
     have e2:w1.cell? ⟨g2,i * 7+2,none⟩=some (.slice u1a u1q u1r):=bel_cell hb1 (rg2 2 _ rfl)
     have c3:wr.cell? ⟨g1,i * 7+3,none⟩=some (.slice x2a x2q x2r):=rg1 3 _ rfl
     have e3:w1.cell? ⟨g2,i * 7+3,none⟩=some (.slice u2a u2q u2r):=bel_cell hb1 (rg2 3 _ rfl)
     have c4:wr.cell? ⟨g1,i * 7+4,none⟩=some (.slice x3a x3q x3r):=rg1 4 _ rfl
     have e4:w1.cell? ⟨g2,i * 7+4,none⟩=some (.slice u3a u3q u3r):=bel_cell hb1 (rg2 4 _ rfl)
     have c5:wr.cell? ⟨g1,i * 7+5,none⟩=some (Zi lc):=rg1 5 _ rfl
     have e5:w1.cell? ⟨g2,i * 7+5,none⟩=some (Zi lc):=bel_cell hb1 (rg2 5 _ rfl)
     have c6:wr.cell? ⟨g1,i * 7+6,none⟩=some (Zi cc):=rg1 6 _ rfl
     have e6:w1.cell? ⟨g2,i * 7+6,none⟩=some (Zi cc):=bel_cell hb1 (rg2 6 _ rfl)
     have z9:=bel_cell hb1 z3
     have hsp:=run_neSp lc cc
     have hgd:=fun op a b=>run_guardSp op a b lc cc
     have hib:decide ((i:Int) < (M:Int))=true:=by simp;omega
     clear rg1 rg2 hb1 hb2 hb12 k1 k2 hbx ax0 bx0 ax1 bx1 ax2 bx2 ax3 bx3 z3
     go_upto_region 13 with fail
     go_upto_region 14 with fail
     rw[← hA1,← hw1]
     clear hA1 hw1 z1 c0 c1 c2 c3 c4 c5 c6
     go_upto_region 15 with fail
     rw[← hA2,← hw2]
     clear hA2 hw2 z9 e0 e1 e2 e3 e4 e5 e6
     obtain⟨a0,a1,a2,a3,a4,a5,a6⟩:=HC1.out w2 (Below.refl _ _)
     obtain⟨b0,b1,b2,b3,b4,b5,b6⟩:=HC2.out w2 (Below.refl _ _)
     have HX2:=Zh (HN0.out w2 (Below.refl _ _))
     have HQ2:Hid (Below w2.heap.size w2 w2):=Zh (Below.refl _ _)
     go_wp2_with fail
     refine HX2.out.mono ?_
     rintro e w3 ⟨rfl,hb3⟩
     clear a0 b0 a1 b1 a2 b2 a3 b3 a4 b4 a5 b5 a6 b6
     have hq3:=HQ2.out.trans (hb3.mono HQ2.out.size)
     obtain⟨a0,a1,a2,a3,a4,a5,a6⟩:=HC1.out w3 hq3
     obtain⟨b0,b1,b2,b3,b4,b5,b6⟩:=HC2.out w3 hq3
     have HX3:=Zh (HN1.out w3 hq3)
     have HQ3:=Zh hq3
     clear hb3 hq3
     go_wp2_with fail
     refine HX3.out.mono ?_
     rintro e w4 ⟨rfl,hb4⟩
     clear a0 b0 a1 b1 a2 b2 a3 b3 a4 b4 a5 b5 a6 b6
     have hq4:=HQ3.out.trans (hb4.mono HQ3.out.size)
     obtain⟨a0,a1,a2,a3,a4,a5,a6⟩:=HC1.out w4 hq4
     obtain⟨b0,b1,b2,b3,b4,b5,b6⟩:=HC2.out w4 hq4
     have HX4:=Zh (HN2.out w4 hq4)
     have HQ4:=Zh hq4
     clear hb4 hq4
     go_wp2_with fail
     refine HX4.out.mono ?_
     rintro e w5 ⟨rfl,hb5⟩
     clear a0 b0 a1 b1 a2 b2 a3 b3 a4 b4 a5 b5 a6 b6
     have hq5:=HQ4.out.trans (hb5.mono HQ4.out.size)
     obtain⟨a0,a1,a2,a3,a4,a5,a6⟩:=HC1.out w5 hq5
     obtain⟨b0,b1,b2,b3,b4,b5,b6⟩:=HC2.out w5 hq5
     have HX5:=Zh (HN3.out w5 hq5)
     have HQ5:=Zh hq5
     clear hb5 hq5
     go_wp2_with fail
     refine HX5.out.mono ?_
     rintro e w6 ⟨rfl,hb6⟩
     have HQ6:=Zh (HQ5.out.trans (hb6.mono HQ5.out.size))
     clear a0 b0 a1 b1 a2 b2 a3 b3 a4 b4 a5 b5 a6 b6 hb6
     go_wp2_with fail
     have h12:=HBr.out.trans (HB12.out.mono HBr.out.size)
     have hre:∃j,j≤M∧Zi ((i:Int)+1)=Zi (j:Int)∧Below W2.heap.size W2 w6:=⟨i+1,by omega,by go_num,h12.trans (HQ6.out.mono h12.size)⟩
     refine⟨?_,?_⟩
     ·repeat refine⟨undef,?_⟩
      exact hre
     ·simp[intOf];omega
    ·have hie:i=M:=by omega
     subst hie
     have HF:Hid (Below w.heap.size w wr):=Zh (HW.out.trans (HBr.out.mono HW.out.size))
     have hib:decide ((i:Int) < (i:Int))=false:=by simp
     go_wp2_with fail
     go_ret
     exact⟨rfl,HF.out⟩
end Go.Proofs.YtlfooogmoigpfaaGreatDoor
namespace Go.Proofs.YtlfooogmoigpfaaGreatDoor
def Good {α:Type} (Q:α→Prop) (R:PR α):Prop:=match R with
 | .ok x _=>Q x
 | .er _ _=>True
theorem Good.any {α:Type} (R:PR α):Good (fun _=>True) R:=by cases R <;> trivial
theorem Good.bind {α β:Type} {Q:α→Prop} {Q':β→Prop} {a:PR α} {f:α→List Tok→PR β} (h:Good Q a) (hf:∀x r,Q x→Good Q' (f x r)):Good Q' (a.bind f):=by
 cases a with
 | ok x r=>exact hf x r h
 | er p e=>trivial
theorem open_good {α:Type} {Q:α→Prop} {en:Nat × Nat} {nest:Nat} {ts:List Tok} {inner:Nat→List Tok→PR α} (h:Good Q (inner (nest+1) ts.tail)):Good Q (pOpen en nest ts inner):=by
 unfold pOpen
 split
 ·trivial
 ·exact h
theorem br_good {α:Type} {Q:α→Prop} {en:Nat × Nat} {nest:Nat} {s1 s2:List UInt8} {ts:List Tok} {inner:Nat→List Tok→PR α} (h:Good Q (inner (nest+1) ts.tail)):Good Q (pBr en nest s1 s2 ts inner):=by
 unfold pBr
 split
 ·exact (open_good h).bind fun x r hx=>(Good.any _).bind fun _ r2 _=>hx
 ·trivial
theorem bde0 (k op:Nat) (n:Int) (nm:List UInt8) (p:Nat × Nat):BdE (.mk k op n nm [] p):=.mk k op n nm [] p (by simp) (fun y h=>by cases h)
theorem bde1 {x:Ex} (k op:Nat) (n:Int) (nm:List UInt8) (p:Nat × Nat) (h:BdE x):BdE (.mk k op n nm [x] p):=.mk k op n nm [x] p (by simp) (fun y hy=>by simp at hy;rw[hy];exact h)
theorem bde2 {x y:Ex} (k op:Nat) (n:Int) (nm:List UInt8) (p:Nat × Nat) (h:BdE x) (h2:BdE y):BdE (.mk k op n nm [x,y] p):=.mk k op n nm [x,y] p (by simp) (fun z hz=>by simp at hz;rcases hz with rfl | rfl <;> assumption)
theorem bde3 {x y z:Ex} (k op:Nat) (n:Int) (nm:List UInt8) (p:Nat × Nat) (h:BdE x) (h2:BdE y) (h3:BdE z):BdE (.mk k op n nm [x,y,z] p):=.mk k op n nm [x,y,z] p (by simp) (fun w hw=>by simp at hw;rcases hw with rfl | rfl | rfl <;> assumption)
theorem good_all (en:Nat × Nat):∀f,(∀nest ts,Good BdE (pWh en f nest ts))∧(∀rank nest ts,Good BdE (pJo en f rank nest ts))∧(∀rank nest x ts,BdE x→Good BdE (pLo en f rank nest x ts))∧(∀nest ts,Good BdE (pUn en f nest ts))∧(∀nest ts,Good BdE (pPr en f nest ts)):=by
 intro f
 induction f with
 | zero=>exact⟨fun _ _=>by simp only[pWh];trivial,fun _ _ _=>by simp only[pJo];trivial,fun _ _ _ _ _=>by simp only[pLo];trivial,fun _ _=>by simp only[pUn];trivial,fun _ _=>by simp only[pPr];trivial⟩
 | succ f ih=>
  obtain⟨iW,iJ,iL,iU,iP⟩:=ih
  refine⟨?_,?_,?_,?_,?_⟩
  ·intro nest ts
   simp only[pWh]
   refine (iJ 1 nest ts).bind fun x r hx=>?_
   split
   ·exact open_good ((iW _ _).bind fun y r2 hy=>(Good.any _).bind fun _ r3 _=>(iW _ r3).bind fun z r4 hz=>bde3 _ _ _ _ _ hx hy hz)
   ·exact hx
  ·intro rank nest ts
   simp only[pJo]
   split
   ·exact iU nest ts
   ·exact (iJ (rank+1) nest ts).bind fun x r hx=>iL rank nest x r hx
  ·intro rank nest x ts hx
   simp only[pLo]
   split
   ·exact hx
   ·refine (iJ (rank+1) nest ts.tail).bind fun y r hy=>?_
    split
    ·exact bde2 _ _ _ _ _ hx hy
    ·exact iL rank nest _ r (bde2 _ _ _ _ _ hx hy)
  ·intro nest ts
   simp only[pUn]
   split
   ·exact open_good ((iU _ _).bind fun y r hy=>bde1 _ _ _ _ _ hy)
   ·split
    ·exact open_good ((iU _ _).bind fun y r hy=>bde1 _ _ _ _ _ hy)
    ·exact iP nest ts
  ·intro nest ts
   simp only[pPr]
   split
   ·exact bde0 _ _ _ _ _
   ·split
    ·exact bde0 _ _ _ _ _
    ·split
     ·exact br_good (iW _ _)
     ·split
      ·split
       ·exact (br_good (iW _ _)).bind fun x r hx=>bde1 _ _ _ _ _ hx
       ·exact (Good.any _).bind fun x r _=>bde0 _ _ _ _ _
      ·split
       ·exact (Good.any _).bind fun x r _=>bde0 _ _ _ _ _
       ·refine (Good.any _).bind fun _ r _=>?_
        refine Good.bind (Q:=fun q=>BdE q.1∧BdE q.2) ?_ fun x r2 h2=>bde2 _ _ _ _ _ h2.1 h2.2
        exact br_good ((iW _ _).bind fun y r2 hy=>(Good.any _).bind fun _ r3 _=>(iW _ r3).bind fun z r4 hz=>⟨hy,hz⟩)
theorem w_good (en:Nat × Nat) (nest:Nat) (ts:List Tok):Good BdE (pW en nest ts):=(good_all en _).1 nest ts
theorem ex0_good:BdE ex0:=bde0 _ _ _ _ _
def AllS (l:List St):Prop:=∀s,s∈l→BdS s
theorem alls_nil:AllS []:=fun s h=>by cases h
theorem bds_of {k:Nat} {nm:List UInt8} {x y:Ex} {b e:List St} {p:Nat × Nat} (hx:BdE x) (hy:BdE y) (hb:AllS b) (he:AllS e):BdS (.mk k nm x y b e p):=.mk k nm x y b e p hx hy hb he
theorem as_good (en:Nat × Nat) (nest kind:Nat) (at_:Nat × Nat) (ts:List Tok):Good BdS (pAs en nest kind at_ ts):=by
 unfold pAs
 exact (Good.any _).bind fun nm r _=>(Good.any _).bind fun _ r2 _=>(w_good en nest r2).bind fun x r3 hx=>bds_of hx ex0_good alls_nil alls_nil
theorem si_good (en:Nat × Nat) (nest:Nat) (ts:List Tok):Good BdS (pSi en nest ts):=by
 unfold pSi
 split
 ·exact as_good _ _ _ _ _
 ·split
  ·split
   ·exact (br_good (w_good _ _ _)).bind fun x r hx=>(Good.any _).bind fun _ r2 _=>(w_good en nest r2).bind fun y r3 hy=>bds_of hx hy alls_nil alls_nil
   ·exact as_good _ _ _ _ _
  ·split
   ·exact (Good.any _).bind fun nm r _=>bds_of ex0_good ex0_good alls_nil alls_nil
   ·split
    ·exact (w_good _ _ _).bind fun x r hx=>bds_of hx ex0_good alls_nil alls_nil
    ·split
     ·exact (w_good _ _ _).bind fun x r hx=>bds_of hx ex0_good alls_nil alls_nil
     ·split
      ·exact bds_of ex0_good ex0_good alls_nil alls_nil
      ·exact as_good _ _ _ _ _
theorem st_good (en:Nat × Nat):∀f,(∀nest acc ts,AllS acc→Good AllS (pSs en f nest acc ts))∧(∀nest ts,Good BdS (pSt en f nest ts))∧(∀nest at_ ts,Good BdS (pCo en f nest at_ ts)):=by
 intro f
 induction f with
 | zero=>exact⟨fun _ _ _ _=>by simp only[pSs];trivial,fun _ _=>by simp only[pSt];trivial,fun _ _ _=>by simp only[pCo];trivial⟩
 | succ f ih=>
  obtain⟨iS,iT,iC⟩:=ih
  refine⟨?_,?_,?_⟩
  ·intro nest acc ts ha
   simp only[pSs]
   split
   ·exact ha
   ·refine (iT nest ts).bind fun s r hs=>iS nest _ r fun t ht=>?_
    rcases List.mem_append.mp ht with h | h
    ·exact ha t h
    ·rw[List.mem_singleton.mp h];exact hs
  ·intro nest ts
   simp only[pSt]
   split
   ·exact iC _ _ _
   ·split
    ·exact (w_good _ _ _).bind fun x r hx=>(br_good (iS _ _ _ alls_nil)).bind fun b r2 hb=>bds_of hx ex0_good hb alls_nil
    ·exact (si_good _ _ _).bind fun s r hs=>(Good.any _).bind fun _ r2 _=>hs
  ·intro nest at_ ts
   simp only[pCo]
   refine (w_good _ _ _).bind fun x r hx=>(br_good (iS _ _ _ alls_nil)).bind fun b r2 hb=>?_
   split
   ·split
    ·exact (open_good (iC _ _ _)).bind fun s r4 hs=>bds_of hx ex0_good hb (fun t ht=>by rw[List.mem_singleton.mp ht];exact hs)
    ·exact (br_good (iS _ _ _ alls_nil)).bind fun e r4 he=>bds_of hx ex0_good hb he
   ·exact bds_of hx ex0_good hb alls_nil
theorem blk_good (en:Nat × Nat) (nest:Nat) (ts:List Tok):Good AllS (pBlk en nest ts):=by
 unfold pBlk
 exact br_good ((st_good en _).1 _ _ _ alls_nil)
theorem src_good (en:Nat × Nat):∀(f:Nat) (acc:SrcS) (ts:List Tok),BdSrc acc→Good BdSrc (pSrc en f acc ts)
 | 0,_,_,_=>by simp only[pSrc];trivial
 | f+1,acc,ts,ha=>by
  simp only[pSrc]
  split
  ·exact ha
  ·split
   ·refine Good.bind (Q:=fun c=>BdE c.2.1) ?_ fun c r hc=>src_good en f _ r ⟨fun q hq=>?_,ha.2⟩
    ·unfold pConst
     exact (Good.any _).bind fun nm r _=>(Good.any _).bind fun _ r2 _=>(w_good _ _ _).bind fun x r3 hx=>(Good.any _).bind fun _ r4 _=>hx
    ·rcases List.mem_append.mp hq with h | h
     ·exact ha.1 q h
     ·rw[List.mem_singleton.mp h];exact hc
   ·refine (Good.any _).bind fun _ r _=>Good.bind (Q:=fun p=>AllS p.body) ?_ fun c r hc=>src_good en f _ r ⟨ha.1,fun q hq=>?_⟩
    ·unfold pProc
     exact (Good.any _).bind fun nm r _=>(Good.any _).bind fun _ r2 _=>(Good.any _).bind fun _ r3 _=>(Good.any _).bind fun _ r4 _=>(blk_good _ _ _).bind fun b r5 hb=>hb
    ·rcases List.mem_append.mp hq with h | h
     ·exact ha.2 q h
     ·rw[List.mem_singleton.mp h];exact hc
theorem pa_good {L:List UInt8} {s:SrcS} (h:paOut L=.ok s):BdSrc s:=by
 unfold paOut at h
 split at h
 ·unfold parseL at h
  split at h
  ·cases h
  ·rename_i ts _
   have hg:=src_good (spL (1,1) L) (ts.length+1) ⟨[],[]⟩ ts ⟨fun c hc=>(by cases hc),fun p hp=>(by cases hp)⟩
   generalize pSrc (spL (1,1) L) (ts.length+1) ⟨[],[]⟩ ts=q at h hg
   cases q with
   | er p e=>cases h
   | ok x r=>
    simp only[SR.ok.injEq] at h
    rw[← h]
    exact hg
 ·cases h
end Go.Proofs.YtlfooogmoigpfaaGreatDoor
namespace Go.Proofs.YtlfooogmoigpfaaGreatDoor
open Go.RowKit Go.Sort Go.Shelf
abbrev bnE (k:Int):List Value:=[Zi k,Zi 0,Zi 0,Ze,Zn,Zi 0,Zi 0]
abbrev bnS (k:Int):List Value:=[Zi k,Ze,Zi 0,Zi 0,Zi 0,Ze,Zn,Zi 0,Zi 0,Zi 0,Zi 0,Zi 0,Ze,Zn,Zi 0,Zi 0,Zn,Zn,Zi 0,Zi 0]
abbrev bnN (s:ByteArray):List Value:=[.string s,Zi 0,Zi 0]
abbrev bnC (s:ByteArray):List Value:=[.string s,Zi 0,Zi 0,Zi 0,Ze,Zn,Zi 0,Zi 0,Zi 0,Zi 0]
abbrev bnD (s:ByteArray):List Value:=[.string s,Zn,Zn,Zn,Zn,Zi 0,Zi 0]
def Blank (T:TypeId) (b:List Value):Prop:=(T=66∧∃k,b=bnE k)∨(T=117∧∃k,b=bnS k)∨(T=89∧∃s,b=bnN s)∨(T=68∧∃s,b=bnC s)∨(T=73∧∃s,b=bnD s)
def SzT (T:TypeId):Nat:=if T=66 then 7 else if T=117 then 20 else if T=89 then 3 else if T=68 then 10 else 7
theorem Blank.len {T:TypeId} {b:List Value} (h:Blank T b):b.length=SzT T:=by
 rcases h with ⟨rfl,k,rfl⟩ | ⟨rfl,k,rfl⟩ | ⟨rfl,k,rfl⟩ | ⟨rfl,k,rfl⟩ | ⟨rfl,k,rfl⟩ <;> rfl
theorem Blank.one {T:TypeId} {b:List Value} (h:Blank T b):∀u∈b,u.oneCell'=true:=by
 rcases h with ⟨rfl,k,rfl⟩ | ⟨rfl,k,rfl⟩ | ⟨rfl,k,rfl⟩ | ⟨rfl,k,rfl⟩ | ⟨rfl,k,rfl⟩ <;> exact fun u hu=>List.all_eq_true.mp (by rfl) u hu
structure Scr (P:Nat→Prop) (W W':World):Prop where
 os:W'.os=W.os
 tape:W'.tape=W.tape
 output:W'.output=W.output
 size:W.heap.size≤W'.heap.size
 out:∀k,k < W.heap.size→¬P k→W'.heap[k]? = W.heap[k]?
 typ:∀(k:Nat) (T:TypeId) (cs:Array Value),W.heap[k]? = some (.cells cs T (0,0))→∃cs':Array Value,W'.heap[k]? = some (.cells cs' T (0,0))∧cs'.size=cs.size
 grp:∀(k:Nat) (T:TypeId) (cs:Array Value) (i:Nat) (a:List Value),W.heap[k]? = some (.cells cs T (0,0))→a.length=SzT T→W.rangeAt k (i * SzT T) a→W'.rangeAt k (i * SzT T) a∨∃b,Blank T b∧W'.rangeAt k (i * SzT T) b
section
variable {P:Nat→Prop} {W W' W'':World}
theorem rng_same {k o:Nat} {a:List Value} (h:W.rangeAt k o a) (hs:W'.heap[k]? = W.heap[k]?):W'.rangeAt k o a:=fun j u hu=>(cell_blk hs _).trans (h j u hu)
theorem Scr.refl (P:Nat→Prop) (W:World):Scr P W W:=⟨rfl,rfl,rfl,Nat.le_refl _,fun _ _ _=>rfl,fun _ _ cs h=>⟨cs,h,rfl⟩,fun _ _ _ _ _ _ _ h=>.inl h⟩
theorem Scr.trans (h:Scr P W W') (h2:Scr P W' W''):Scr P W W'':=by
 refine⟨h2.os.trans h.os,h2.tape.trans h.tape,h2.output.trans h.output,Nat.le_trans h.size h2.size,fun k hk hn=>(h2.out k (Nat.lt_of_lt_of_le hk h.size) hn).trans (h.out k hk hn),fun k T cs hc=>?_,fun k T cs i a hc hl hr=>?_⟩
 ·obtain⟨c1,e1,s1⟩:=h.typ k T cs hc
  obtain⟨c2,e2,s2⟩:=h2.typ k T c1 e1
  exact⟨c2,e2,s2.trans s1⟩
 ·obtain⟨c1,e1,s1⟩:=h.typ k T cs hc
  rcases h.grp k T cs i a hc hl hr with h3 | ⟨b,hb,h3⟩
  ·exact h2.grp k T c1 i a e1 hl h3
  ·rcases h2.grp k T c1 i b e1 hb.len h3 with h4 | h4
   ·exact .inr ⟨b,hb,h4⟩
   ·exact .inr h4
theorem Scr.low (h:Scr P W W') (hb:Below W.heap.size W' W''):Scr P W W'':=by
 have hk:∀k,k < W.heap.size→W''.heap[k]? = W'.heap[k]?:=fun k hk=>hb.block k hk
 refine⟨hb.os.trans h.os,hb.tape.trans h.tape,hb.output.trans h.output,Nat.le_trans h.size hb.size,fun k hl hn=>(hk k hl).trans (h.out k hl hn),fun k T cs hc=>?_,fun k T cs i a hc hl hr=>?_⟩
 ·obtain⟨c1,e1,s1⟩:=h.typ k T cs hc
  exact⟨c1,(hk k (blk_lt hc)).trans e1,s1⟩
 ·rcases h.grp k T cs i a hc hl hr with h3 | ⟨b,hb,h3⟩
  ·exact .inl (rng_same h3 (hk k (blk_lt hc)))
  ·exact .inr ⟨b,hb,rng_same h3 (hk k (blk_lt hc))⟩
theorem Scr.bel (h:Below W.heap.size W W'):Scr P W W':=(Scr.refl P W).low h
theorem Scr.one {g:Nat} {T:TypeId} {cs cs':Array Value} {i:Nat} {b:List Value} (hP:P g) (hc:W.heap[g]? = some (.cells cs T (0,0))) (hc':W'.heap[g]? = some (.cells cs' T (0,0))) (hs:cs'.size=cs.size) (hb:Blank T b) (hin:∀j,j < SzT T→cs'[i * SzT T+j]? = b[j]?) (hout:∀x,x < i * SzT T∨i * SzT T+SzT T≤x→cs'[x]? = cs[x]?)
  (hos:W'.os=W.os) (htp:W'.tape=W.tape) (hop:W'.output=W.output) (hsz:W.heap.size≤W'.heap.size) (hoth:∀k,k < W.heap.size→k≠g→W'.heap[k]? = W.heap[k]?):Scr P W W':=by
 refine⟨hos,htp,hop,hsz,fun k hk hn=>hoth k hk (fun e=>hn (e▸hP)),fun k U c hk=>?_,fun k U c n a hk hl hr=>?_⟩
 ·by_cases e:k=g
  ·subst e
   rw[hc] at hk
   simp only[Option.some.injEq,Obj.cells.injEq] at hk
   obtain⟨rfl,rfl,_⟩:=hk
   exact⟨cs',hc',hs⟩
  ·exact⟨c,(hoth k (blk_lt hk) e).trans hk,rfl⟩
 ·by_cases e:k=g
  ·subst e
   rw[hc] at hk
   simp only[Option.some.injEq,Obj.cells.injEq] at hk
   obtain⟨rfl,rfl,_⟩:=hk
   have hcell:∀x,W'.cell? ⟨k,x,none⟩=cs'[x]?:=fun x=>by simp[World.cell?,hc']
   have hcell0:∀x,W.cell? ⟨k,x,none⟩=cs[x]?:=fun x=>by simp[World.cell?,hc]
   by_cases hi:n=i
   ·subst hi
    refine .inr ⟨b,hb,fun j u hu=>?_⟩
    have hj:j < SzT T:=by
     have:=(List.getElem?_eq_some_iff.mp hu).1
     rw[hb.len] at this
     exact this
    rw[hcell,hin j hj]
    exact hu
   ·refine .inl fun j u hu=>?_
    have hj:j < SzT T:=by
     have:=(List.getElem?_eq_some_iff.mp hu).1
     omega
    rw[hcell,hout _ ?_,← hcell0]
    ·exact hr j u hu
    ·rcases Nat.lt_or_gt_of_ne hi with h | h
     ·left
      have:(n+1) * SzT T≤i * SzT T:=Nat.mul_le_mul_right _ h
      rw[Nat.succ_mul] at this
      omega
     ·right
      have:(i+1) * SzT T≤n * SzT T:=Nat.mul_le_mul_right _ h
      rw[Nat.succ_mul] at this
      omega
  ·exact .inl (rng_same hr (hoth k (blk_lt hk) e))
end
def RowX (P:Nat→Prop) (W:World) (T:TypeId) (v:Value) (G:List Value→Prop):Prop:=v=Zn∨∃(g m q:Nat) (cs:Array Value),v=.slice (some ⟨g,0,none⟩) m q∧P g∧m≤5000000∧m≤q∧q≤maxLen∧W.heap[g]? = some (.cells cs T (0,0))∧cs.size=q * SzT T∧∀i,i < m→∃a,a.length=SzT T∧W.rangeAt g (i * SzT T) a∧G a
theorem RowX.scr {P:Nat→Prop} {W W':World} {T:TypeId} {v:Value} {G G':List Value→Prop} (h:RowX P W T v G) (hs:Scr P W W') (hG:∀a,G a→G' a) (hb:∀b,Blank T b→G' b):RowX P W' T v G':=by
 rcases h with h | ⟨g,m,q,cs,e,h1,h2,h3,h4,h5,h6,h7⟩
 ·exact .inl h
 ·obtain⟨c1,e1,s1⟩:=hs.typ g T cs h5
  refine .inr ⟨g,m,q,c1,e,h1,h2,h3,h4,e1,s1.trans h6,fun i hi=>?_⟩
  obtain⟨a,ha,hr,hg⟩:=h7 i hi
  rcases hs.grp g T cs i a h5 ha hr with h8 | ⟨b,hb2,h8⟩
  ·exact⟨a,ha,h8,hG a hg⟩
  ·exact⟨b,hb2.len,h8,hb b hb2⟩
def ExX (P:Nat→Prop) (W:World) (G:List Value→Prop) (a:List Value):Prop:=∃(k o n l c:Int) (s:ByteArray) (A:Value),a=[Zi k,Zi o,Zi n,.string s,A,Zi l,Zi c]∧RowX P W 66 A G
def GE (P:Nat→Prop) (W:World):Nat→List Value→Prop
 | 0=>fun a=>∃k,a=bnE k
 | d+1=>ExX P W (GE P W d)
theorem ge_blank {P:Nat→Prop} {W:World} (d:Nat) (k:Int):GE P W d (bnE k):=by
 cases d
 ·exact⟨k,rfl⟩
 ·exact⟨k,0,0,0,0,_,_,rfl,.inl rfl⟩
theorem blank_e {b:List Value} (h:Blank 66 b):∃k,b=bnE k:=by
 rcases h with ⟨_,h⟩ | ⟨h,_⟩ | ⟨h,_⟩ | ⟨h,_⟩ | ⟨h,_⟩
 ·exact h
 all_goals exact absurd h (by decide)
theorem ge_scr {P:Nat→Prop} {W W':World} (hs:Scr P W W'):∀(d:Nat) (a:List Value),GE P W d a→GE P W' d a
 | 0,a,h=>h
 | d+1,a,⟨k,o,n,l,c,s,A,e,h⟩=>⟨k,o,n,l,c,s,A,e,h.scr hs (ge_scr hs d) (fun b hb=>by
   obtain⟨k,rfl⟩:=blank_e hb
   exact ge_blank d k)⟩
theorem heap_setCells {g:Nat} {T:TypeId} : ∀(b:List Value) (o:Nat) (W:World) (cs:Array Value),W.heap[g]? = some (.cells cs T (0,0))→o+b.length≤cs.size→∃cs':Array Value,(W.setCells g o b).heap[g]? = some (.cells cs' T (0,0))∧cs'.size=cs.size∧(∀j,j < b.length→cs'[o+j]? = b[j]?)∧∀x,x < o∨o+b.length≤x→cs'[x]? = cs[x]?
 | [],o,W,cs,h,hl=>⟨cs,h,rfl,fun j hj=>absurd hj (Nat.not_lt_zero j),fun x _=>rfl⟩
 | v :: r,o,W,cs,h,hl=>by
  simp only[List.length_cons] at hl
  obtain⟨c1,e1,s1,i1,o1⟩:=heap_setCells r (o+1) (W.setCell ⟨g,o,none⟩ v) (cs.setIfInBounds o v) (heap_setCell_same _ _ _ _ _ _ h) (by rw[Array.size_setIfInBounds];omega)
  rw[Array.size_setIfInBounds] at s1
  refine⟨c1,e1,s1,fun j hj=>?_,fun x hx=>?_⟩
  ·cases j with
   | zero=>
    rw[Nat.add_zero,o1 o (.inl (by omega)),Array.getElem?_setIfInBounds]
    simp
    omega
   | succ j=>
    rw[show o+(j+1)=o+1+j by omega,i1 j (by simpa using hj)]
    rfl
  ·simp only[List.length_cons] at hx
   rw[o1 x (by omega),Array.getElem?_setIfInBounds,if_neg (by omega)]
theorem setCells_rest (g:Nat):∀(b:List Value) (o:Nat) (W:World),(W.setCells g o b).os=W.os∧(W.setCells g o b).tape=W.tape∧(W.setCells g o b).output=W.output∧(W.setCells g o b).heap.size=W.heap.size∧∀k,k≠g→(W.setCells g o b).heap[k]? = W.heap[k]?
 | [],o,W=>⟨rfl,rfl,rfl,rfl,fun _ _=>rfl⟩
 | v :: r,o,W=>by
  obtain⟨h1,h2,h3,h4,h5⟩:=setCells_rest g r (o+1) (W.setCell ⟨g,o,none⟩ v)
  exact⟨h1,h2,h3,h4.trans (by simp),fun k hk=>(h5 k hk).trans (heap_setCell_other W ⟨g,o,none⟩ k v hk)⟩
theorem there_of {W:World} {g:Nat} {T:TypeId} {cs:Array Value} (h:W.heap[g]? = some (.cells cs T (0,0))) {o n:Nat} (hl:o+n≤cs.size):W.there g o n:=fun j hj=>by
 refine⟨?_,frozen_of_row W g _ _ _ h⟩
 have:W.cell? ⟨g,o+j,none⟩=cs[o+j]?:=by simp[World.cell?,h]
 rw[this,Array.getElem?_eq_getElem (by omega)]
 rfl
theorem scr_put {P:Nat→Prop} {W:World} {g:Nat} {T:TypeId} {cs:Array Value} {i:Nat} {b:List Value} (hP:P g) (hc:W.heap[g]? = some (.cells cs T (0,0))) (hb:Blank T b) (hl:i * SzT T+SzT T≤cs.size):Scr P W (W.setCells g (i * SzT T) b):=by
 obtain⟨c1,e1,s1,i1,o1⟩:=heap_setCells b (i * SzT T) W cs hc (by rw[hb.len];exact hl)
 obtain⟨h1,h2,h3,h4,h5⟩:=setCells_rest g b (i * SzT T) W
 exact Scr.one hP hc e1 s1 hb (fun j hj=>i1 j (by rw[hb.len];exact hj)) (fun x hx=>o1 x (by rw[hb.len];exact hx)) h1 h2 h3 (Nat.le_of_eq h4.symm) (fun k _ hk=>h5 k hk)
def RowG (P:Nat→Prop) (W0 W:World) (T:TypeId) (v:Value) (n:Nat):Prop:=(∃(g q:Nat) (cs:Array Value),v=.slice (some ⟨g,0,none⟩) n q∧P g∧n≤q∧q≤maxLen∧W.heap[g]? = some (.cells cs T (0,0))∧cs.size=q * SzT T)∨∃xs,W.ownsRow W0.heap.size T (SzT T) v n xs
theorem RowX.rowG {P:Nat→Prop} {W0 W:World} {T:TypeId} {v:Value} {G:List Value→Prop} (h:RowX P W T v G):∃ao n c,v=.slice ao n c∧n≤5000000∧RowG P W0 W T v n:=by
 rcases h with h | ⟨g,m,q,cs,e,h1,h2,h3,h4,h5,h6,h7⟩
 ·exact⟨none,0,0,h,by omega,.inr ⟨[],by rw[h];exact World.ownsRow_nil _ _ _ _⟩⟩
 ·exact⟨_,m,q,e,h2,.inl ⟨g,q,cs,e,h1,h3,h4,h5,h6⟩⟩
theorem app_step {P:Nat→Prop} {W0 W:World} {TS T:TypeId} {z:Value} {by_ n:Nat} {v:Value} {b:List Value} (E:ElA TS T z (SzT T) by_) (hs:Scr P W0 W) (h:RowG P W0 W T v n) (hn:n≤6000000) (hb:Blank T b) (ty:TypeId) :
  ∃v' W',(Builtin.append_ #[TS,TS] ty #[v,.slice (some ⟨W.heap.size,0,none⟩) 1 1]).run Tryz.prog (W.alloc (.cells b.toArray T))=.ok v' W'∧Scr P W0 W'∧RowG P W0 W' T v' (n+1)∧∃ao c,v'=.slice ao (n+1) c:=by
 have hal:=bel_al W (.cells b.toArray T)
 have hs1:=hs.trans (Scr.bel (P:=P) hal)
 have hsz:=hs1.size
 rcases h with ⟨g,q,cs,rfl,hP,hnq,hqm,hc,hcs⟩ | ⟨xs,ho⟩
 ·have hc1:=(hal.block g (blk_lt hc)).trans hc
  by_cases hr:n+1≤q
  ·obtain⟨i0,hi',hz0,hz1,hz2⟩:=info_parts E.i
   have hm:n * SzT T+SzT T≤cs.size:=by
    rw[hcs]
    have:(n+1) * SzT T≤q * SzT T:=Nat.mul_le_mul_right _ hr
    rw[Nat.succ_mul] at this
    exact this
   have hrun:=run_append_room (P:=Tryz.prog) (W.alloc (.cells b.toArray T)) TS ty T i0 E.u hi' g n q cs hc1 ⟨W.heap.size,0,none⟩ 1 1 b (by rw[hz1,hb.len];omega) (src_at W _ _) hb.one hr (by rw[hz1,hb.len];exact hm)
   rw[hz1] at hrun
   generalize hcn:(cs.toList.take (n * SzT T) ++ b ++ cs.toList.drop (n * SzT T+b.length)).toArray=cn at hrun
   have hbl:=hb.len
   have hget:∀x,cn[x]? = if x < n * SzT T then cs[x]? else if x < n * SzT T+SzT T then b[x - n * SzT T]? else cs[x]?:=fun x=>by
    rw[← hcn]
    simp only[List.getElem?_toArray]
    have hl1:(cs.toList.take (n * SzT T)).length=n * SzT T:=by rw[List.length_take,Array.length_toList];omega
    by_cases h1:x < n * SzT T
    ·rw[if_pos h1,List.append_assoc,List.getElem?_append_left (by omega),List.getElem?_take,if_pos h1]
     simp
    ·rw[if_neg h1,List.append_assoc,List.getElem?_append_right (by omega),hl1]
     by_cases h2:x < n * SzT T+SzT T
     ·rw[if_pos h2,List.getElem?_append_left (by omega)]
     ·rw[if_neg h2,List.getElem?_append_right (by omega),List.getElem?_drop,hbl]
      rw[show n * SzT T+SzT T+(x - n * SzT T - SzT T)=x by omega]
      simp
   have hcz:cn.size=cs.size:=by
    rw[← hcn]
    simp only[List.size_toArray,List.length_append,List.length_take,List.length_drop,Array.length_toList,hbl]
    omega
   have hset:((W.alloc (.cells b.toArray T)).setRow g cn).heap[g]? = some (.cells cn T (0,0)):=setR_same hc1
   have hs2:Scr P (W.alloc (.cells b.toArray T)) ((W.alloc (.cells b.toArray T)).setRow g cn):=Scr.one (i:=n) hP hc1 hset hcz hb (fun j hj=>by rw[hget,if_neg (by omega),if_pos (by omega),show n * SzT T+j - n * SzT T=j by omega]) (fun x hx=>by
    rw[hget]
    rcases hx with hx | hx
    ·rw[if_pos hx]
    ·rw[if_neg (by omega),if_neg (by omega)]) rfl rfl rfl (by simp[World.setRow]) (fun k _ hk=>setR_other hk _)
   exact⟨_,_,hrun,hs1.trans hs2,.inl ⟨g,q,cn,rfl,hP,hr,hqm,hset,hcz.trans hcs⟩,⟨_,_,rfl⟩⟩
  ·have ho1:(W.alloc (.cells b.toArray T)).ownsRow 0 T (SzT T) (.slice (some ⟨g,0,none⟩) n q) n (cs.toList.take (n * SzT T)):=⟨by
    rw[List.length_take,Array.length_toList,hcs]
    exact Nat.min_eq_left (Nat.mul_le_mul_right _ hnq),.inr ⟨g,q,cs,rfl,Nat.zero_le _,hc1,hnq,hqm,hcs,rfl⟩⟩
   obtain⟨v',w',hrun,ho,hor⟩:=appC E ty 0 _ n _ ho1 ⟨W.heap.size,0,none⟩ 1 1 b (by rw[hb.len];omega) (src_at W _ _) hb.one (by omega) (Nat.zero_le _)
   rcases hor with ⟨g2,c2,e1,e2,hg⟩ | ⟨ho2,hg⟩
   ·simp only[Value.slice.injEq,Option.some.injEq,Addr.mk.injEq,true_and] at e1
    obtain⟨_,hcap⟩:=e1
    rcases ho with ⟨_,⟨e,_⟩ | ⟨g3,c3,cu,e,_,_,h4,_⟩⟩
    ·rw[e2] at e;cases e
    ·rw[e2] at e
     simp only[Value.slice.injEq,true_and] at e
     omega
   ·have hbw:Below (W.alloc (.cells b.toArray T)).heap.size (W.alloc (.cells b.toArray T)) w':=⟨hg.os,hg.tape,hg.output,hg.size,fun k hk=>hg.block k hk (by simp)⟩
    obtain⟨ao,c,e,_⟩:=own_slice ho2
    exact⟨v',w',hrun,hs1.trans (Scr.bel hbw),.inr ⟨_,ownA_mono ho2 hsz⟩,⟨ao,c,e⟩⟩
 ·obtain⟨v',w',hrun,ho2,hor⟩:=appC E ty W0.heap.size v n xs (World.ownsRow.alloc ho _) ⟨W.heap.size,0,none⟩ 1 1 b (by rw[hb.len];omega) (src_at W _ _) hb.one (by omega) hsz
  obtain⟨ao,c,e,_⟩:=own_slice ho2
  have hbw:Below W0.heap.size (W.alloc (.cells b.toArray T)) w':=by
   rcases hor with ⟨g2,c2,e1,e2,hg⟩ | ⟨_,hg⟩
   ·have hg2:=(World.ownsRow.lt ho g2 (by rw[e1];rfl)).1
    exact⟨hg.os,hg.tape,hg.output,hg.size,fun k hk=>hg.block k (by omega) (by simp;omega)⟩
   ·exact⟨hg.os,hg.tape,hg.output,hg.size,fun k hk=>hg.block k (by omega) (by simp)⟩
  exact⟨v',w',hrun,hs1.low hbw,.inr ⟨_,ho2⟩,⟨ao,c,e⟩⟩
theorem exprE:ElA 64 66 (.agg #[Zi 0,Zi 0,Zi 0,Ze,Zn,Zi 0,Zi 0]) (SzT 66) 80:=⟨Tryz.underlying64,by kernel_rfl,rfl,by decide,by decide⟩
theorem sz_e:SzT 66=7:=rfl
theorem setCells7 (w:World) (g o:Nat) (v0 v1 v2 v3 v4 v5 v6:Value):w.setCells g o [v0,v1,v2,v3,v4,v5,v6]=((((((w.setCell ⟨g,o,none⟩ v0).setCell ⟨g,o+1,none⟩ v1).setCell ⟨g,o+2,none⟩ v2).setCell ⟨g,o+3,none⟩ v3).setCell ⟨g,o+4,none⟩ v4).setCell ⟨g,o+5,none⟩ v5).setCell ⟨g,o+6,none⟩ v6:=rfl
theorem blankE (k:Int):Blank 66 (bnE k):=Or.inl ⟨rfl,k,rfl⟩
theorem scr_putn {P:Nat→Prop} {W:World} {g sz:Nat} {T:TypeId} {cs:Array Value} {i:Nat} {b:List Value} (hsz:SzT T=sz) (hP:P g) (hc:W.heap[g]? = some (.cells cs T (0,0))) (hb:Blank T b) (hl:i * sz+sz≤cs.size):Scr P W (W.setCells g (i * sz) b):=by
 subst hsz
 exact scr_put hP hc hb hl
theorem rowx_at {P:Nat→Prop} {W:World} {T:TypeId} {sz m q i:Nat} {ao:Option Addr} {G:List Value→Prop} (hsz:SzT T=sz) (h:RowX P W T (.slice ao m q) G) (hi:i < m):∃(g:Nat) (cs:Array Value),ao=some ⟨g,0,none⟩∧P g∧W.heap[g]? = some (.cells cs T (0,0))∧i * sz+sz≤cs.size∧∃a:List Value,a.length=sz∧W.rangeAt g (i * sz) a∧G a:=by
 subst hsz
 rcases h with e | ⟨g,m2,q2,cs,e,h1,h2,h3,_,h5,h6,h7⟩
 ·simp only[Value.slice.injEq] at e
  omega
 ·simp only[Value.slice.injEq] at e
  obtain⟨rfl,rfl,rfl⟩:=e
  obtain⟨a,h8,h9,h10⟩:=h7 i hi
  refine⟨g,cs,rfl,h1,h5,?_,a,h8,h9,h10⟩
  rw[h6,← Nat.succ_mul]
  exact Nat.mul_le_mul_right _ (Nat.lt_of_lt_of_le hi h3)
theorem scr_typ {P:Nat→Prop} {W:World} {g x:Nat} {T:TypeId} {cs:Array Value} (hc:W.heap[g]? = some (.cells cs T (0,0))) (hx:x≤cs.size):∀U,Scr P W U→∃cs':Array Value,U.heap[g]? = some (.cells cs' T (0,0))∧x≤cs'.size:=fun U hU=>by
 obtain⟨c2,e2,s2⟩:=hU.typ g _ cs hc
 exact⟨c2,e2,by omega⟩
def ScarsE (P:Nat→Prop) (U:World) (b:List Value):Prop:=Calls Tryz.prog 22 #[.agg b.toArray] U fun e w'=>e=.returned (.tuple #[])∧Scr P U w'
theorem scar_walk (P:Nat→Prop) (W:World) (hP:∀k,P k→k < W.heap.size) (k o n l c:Int) (s:ByteArray) (A:Value) (G:World→List Value→Prop) (hrow:RowX P W 66 A (G W)) (hGs:∀U U' b,Scr P U U'→G U b→G U' b) (hGb:∀U b,Blank 66 b→G U b) (hcall:A≠Zn→∀U b,(∀k,P k→k < U.heap.size)→G U b→ScarsE P U b) :
  ScarsE P W [Zi k,Zi o,Zi n,.string s,A,Zi l,Zi c]:=by
 unfold ScarsE
 obtain⟨W1,hW1⟩:=nm (W.alloc (.cells #[Zi k,Zi o,Zi n,.string s,A,Zi l,Zi c] 66))
 obtain⟨B,hB⟩:=nm (W.heap.size)
 have hb1:Below W.heap.size W W1:=by rw[hW1];exact bel_al _ _
 have hx:W1.heap[B]? = some (.cells #[Zi k,Zi o,Zi n,.string s,A,Zi l,Zi c] 66 (0,0)):=by rw[hW1,hB];exact heap_alloc_new _ _ rfl
 have hs1:Scr P W W1:=Scr.bel hb1
 have hnB:¬P B:=fun h=>by have:=hP B h;omega
 have hrow1:=hrow.scr hs1 (fun a=>hGs W W1 a hs1) (fun b hb=>hGb W1 b hb)
 obtain⟨ao,m,q,rfl,hm9,_⟩:=hrow1.rowG (W0:=W)
 have HX:Hid (∀U,Scr P W1 U→U.cell? ⟨B,4,none⟩=some (.slice ao m q)):=Zh fun U hU=>by
  have:=(hU.out B (blk_lt hx) hnB).trans hx
  simp[World.cell?,this]
 have HR:Hid (∀U,Scr P W1 U→RowX P U 66 (.slice ao m q) (G U)):=Zh fun U hU=>hrow1.scr hU (fun a=>hGs W1 U a hU) (fun b hb=>hGb U b hb)
 have HC:=Zh hcall
 have HS1:=Zh hs1
 have HP:=Zh hP
 have h4:=HX.out W1 (Scr.refl _ _)
 clear hb1 hx hs1 hnB hrow1 hrow hcall hGs hGb hP
 go_enter Tryz.func22,Tryz.ntmps22
 go_upto_region 1 with fail
 rw[← hW1,← hB]
 clear hW1 hB
 go_wp2_with fail
 clear h4
 go_loopw[2] (fun x wr=>∃(i:Nat),i≤m∧x=Zi (i:Int)∧Scr P W1 wr) (fun x _=>m - (intOf x).toNat)
 case atStart=>exact⟨0,Nat.zero_le _,rfl,Scr.refl _ _⟩
 case round=>
  obtain⟨i,hi,rfl,hsr⟩:=hrel
  have h4:=HX.out wr hsr
  have HSr:=Zh hsr
  by_cases hlt:i < m
  ·obtain⟨g,cs,hao,hPg,hgc,hcs,a,ha,hr,hg⟩:=rowx_at (sz:=7) sz_e (HR.out wr hsr) hlt
   subst hao
   have hib:decide ((i:Int) < (m:Int))=true:=by simp;omega
   have hsz1:(Tryz.prog.info? 66).map (·.size)=some a.length:=by rw[ha];kernel_rfl
   have HCl:=Zh (HC.out (by simp) wr a (fun k hk=>Nat.lt_of_lt_of_le (HP.out k hk) (Nat.le_trans HS1.out.size hsr.size)) hg)
   unfold ScarsE at HCl
   have HGc:=Zh (scr_typ (P:=P) hgc hcs)
   have HPg:=Zh hPg
   clear hg hgc hcs ha hsr hPg
   go_wp2_with (refine wpList_load_mid rfl 66 _ rfl g (i * 7) rfl a _ hr Tryz.underlying66 rfl hsz1 ?_)
   refine HCl.out.mono ?_
   rintro e w2 ⟨rfl,hs2⟩
   obtain⟨cs2,hc2,hl2⟩:=HGc.out w2 hs2
   have h5:=HX.out w2 (HSr.out.trans hs2)
   have hth:w2.there g (i * 7) 7:=there_of hc2 hl2
   obtain⟨r0,c0⟩:=Option.isSome_iff_exists.1 (hth 0 (by omega)).1
   have f0:=(hth 0 (by omega)).2
   obtain⟨r1,c1⟩:=Option.isSome_iff_exists.1 (hth 1 (by omega)).1
   have f1:=(hth 1 (by omega)).2
   obtain⟨r2,c2⟩:=Option.isSome_iff_exists.1 (hth 2 (by omega)).1
   have f2:=(hth 2 (by omega)).2
   obtain⟨r3,c3⟩:=Option.isSome_iff_exists.1 (hth 3 (by omega)).1
   have f3:=(hth 3 (by omega)).2
   obtain⟨r4,c4⟩:=Option.isSome_iff_exists.1 (hth 4 (by omega)).1
   have f4:=(hth 4 (by omega)).2
   obtain⟨r5,c5⟩:=Option.isSome_iff_exists.1 (hth 5 (by omega)).1
   have f5:=(hth 5 (by omega)).2
   obtain⟨r6,c6⟩:=Option.isSome_iff_exists.1 (hth 6 (by omega)).1
   have f6:=(hth 6 (by omega)).2
   rw[Nat.add_zero] at c0 f0
   have hput:Scr P w2 (w2.setCells g (i * 7) (bnE (-1))):=scr_putn (P:=P) (W:=w2) (g:=g) (sz:=7) (T:=66) (cs:=cs2) (i:=i) (b:=bnE (-1)) sz_e HPg.out hc2 (blankE (-1)) hl2
   rw[setCells7] at hput
   have HS3:=Zh ((HSr.out.trans hs2).trans hput)
   clear hput
   clear hs2 hc2 hl2 h4 hr hsz1 HCl
   clear hth
   go_wp2_with fail
   have hre:∃j,j≤m∧Zi ((i:Int)+1)=Zi (j:Int)∧Scr P W1 (((((((w2.setCell ⟨g,i * 7,none⟩ (Zi (-1))).setCell ⟨g,i * 7+1,none⟩ (Zi 0)).setCell ⟨g,i * 7+2,none⟩ (Zi 0)).setCell ⟨g,i * 7+3,none⟩ (Ze)).setCell ⟨g,i * 7+4,none⟩ (Zn)).setCell ⟨g,i * 7+5,none⟩ (Zi 0)).setCell ⟨g,i * 7+6,none⟩ (Zi 0)):=⟨i+1,by omega,by go_num,HS3.out⟩
   refine⟨?_,?_⟩
   ·repeat refine⟨undef,?_⟩
    exact hre
   ·simp[intOf];omega
  ·have hie:i=m:=by omega
   subst hie
   have hib:decide ((i:Int) < (i:Int))=false:=by simp
   have hgr:RowG P W wr 66 (.slice ao i q) i:=by
    obtain⟨a2,n2,c2,e,_,h⟩:=(HR.out wr hsr).rowG (W0:=W)
    simp only[Value.slice.injEq] at e
    obtain⟨_,rfl,_⟩:=e
    exact h
   have HS0:=Zh (HS1.out.trans hsr)
   have HGr:=Zh hgr
   clear hsr hgr
   go_wp2_with fail
   clear h4
   go_loopw[3,4] (fun x y wq=>∃(t r:Nat) (a9:Option Addr) (c9:Nat),t≤20∧r=i+t∧x=.slice a9 r c9∧y=Zi (t:Int)∧Hid (Scr P W wq∧RowG P W wq 66 (.slice a9 r c9) r)) (fun _ y _=>20 - (intOf y).toNat)
   case atStart=>exact⟨0,i,ao,q,by omega,rfl,rfl,rfl,Zh ⟨HS0.out,HGr.out⟩⟩
   case round=>
    obtain⟨t,r,a9,c9,ht,hr,rfl,rfl,HT⟩:=hrel
    by_cases hlt2:t < 20
    ·have hkI:(t:Int) < 20:=by omega
     have HAp:∀ty,∃v' W',(Builtin.append_ #[64,64] ty #[.slice a9 r c9,.slice (some ⟨wr.heap.size,0,none⟩) 1 1]).run Tryz.prog (wr.alloc (.cells #[Zi (-2),Zi 0,Zi 0,Ze,Zn,Zi 0,Zi 0] 66))=.ok v' W'∧Scr P W W'∧RowG P W W' 66 v' (r+1)∧∃ao c,v'=.slice ao (r+1) c:=fun ty=>app_step (P:=P) (W0:=W) (W:=wr) (b:=bnE (-2)) exprE HT.out.1 HT.out.2 (by omega) (blankE (-2)) ty
     have HRt:=Zh hr
     clear hr
     go_wp2_with (first
      | (at_builtin;refine wpL_appR rfl _ _ _ rfl _ _ rfl rfl HAp ?_;rintro v9 w9 ⟨hs9,hg9,a10,c10,rfl⟩)
      | fail)
     have HT9:=Zh (And.intro hs9 hg9)
     clear hs9 hg9 HAp
     go_wp2_with fail
     go_roundw
     case rel=>exact⟨t+1,r+1,a10,c10,by omega,by have:=HRt.out;omega,rfl,by go_num,HT9⟩
     case measure=>simp[intOf];omega
    ·have hkI:¬(t:Int) < 20:=by omega
     have HF:=Zh HT.out.1
     clear hr ht hlt2
     go_wp2_with fail
     go_end0
     exact⟨rfl,HF.out⟩
theorem scar_e (P:Nat→Prop):∀(d:Nat) (W:World) (a:List Value),(∀k,P k→k < W.heap.size)→GE P W d a→ScarsE P W a
 | 0,W,a,hP,⟨k,e⟩=>by
  rw[e]
  exact scar_walk P W hP k 0 0 0 0 _ _ (fun _ _=>True) (.inl rfl) (fun _ _ _ _ _=>trivial) (fun _ _ _=>trivial) (fun h=>absurd rfl h)
 | d+1,W,a,hP,⟨k,o,n,l,c,s,A,e,h⟩=>by
  rw[e]
  exact scar_walk P W hP k o n l c s A (fun U b=>GE P U d b) h (fun U U' b hs hg=>ge_scr hs d b hg) (fun U b hb=>by obtain⟨k,rfl⟩:=blank_e hb;exact ge_blank d k) (fun _ U b hU hg=>scar_e P d U b hU hg)
theorem nameE2:ElA 70 89 (.agg #[Ze,Zi 0,Zi 0]) (SzT 89) 32:=⟨Tryz.underlying70,by kernel_rfl,rfl,by decide,by decide⟩
theorem sz_n:SzT 89=3:=rfl
theorem blankN (s:ByteArray):Blank 89 (bnN s):=Or.inr (Or.inr (Or.inl ⟨rfl,s,rfl⟩))
theorem setCells3 (w:World) (g o:Nat) (v0 v1 v2:Value):w.setCells g o [v0,v1,v2]=((w.setCell ⟨g,o,none⟩ v0).setCell ⟨g,o+1,none⟩ v1).setCell ⟨g,o+2,none⟩ v2:=rfl
theorem scar_n (P:Nat→Prop) (W:World) (A:Value) (hrow:RowX P W 89 A (fun _=>True)):Calls Tryz.prog 23 #[A] W fun e w'=>e=.returned (.tuple #[])∧Scr P W w':=by
 obtain⟨ao,m,q,rfl,hm9,_⟩:=hrow.rowG (W0:=W)
 have HR:Hid (∀U,Scr P W U→RowX P U 89 (.slice ao m q) (fun _=>True)):=Zh fun U hU=>hrow.scr hU (fun a h=>h) (fun b hb=>trivial)
 clear hrow
 go_enter Tryz.func23,Tryz.ntmps23
 go_wp2_with fail
 go_loopw[2] (fun x wr=>∃(i:Nat),i≤m∧x=Zi (i:Int)∧Scr P W wr) (fun x _=>m - (intOf x).toNat)
 case atStart=>exact⟨0,Nat.zero_le _,rfl,Scr.refl _ _⟩
 case round=>
  obtain⟨i,hi,rfl,hsr⟩:=hrel
  have HSr:=Zh hsr
  by_cases hlt:i < m
  ·obtain⟨g,cs,hao,hPg,hgc,hcs,a,ha,hr,hg⟩:=rowx_at (sz:=3) sz_n (HR.out wr hsr) hlt
   subst hao
   have hib:decide ((i:Int) < (m:Int))=true:=by simp;omega
   have hth:wr.there g (i * 3) 3:=there_of hgc hcs
   obtain⟨r0,c0⟩:=Option.isSome_iff_exists.1 (hth 0 (by omega)).1
   have f0:=(hth 0 (by omega)).2
   obtain⟨r1,c1⟩:=Option.isSome_iff_exists.1 (hth 1 (by omega)).1
   have f1:=(hth 1 (by omega)).2
   obtain⟨r2,c2⟩:=Option.isSome_iff_exists.1 (hth 2 (by omega)).1
   have f2:=(hth 2 (by omega)).2
   rw[Nat.add_zero] at c0 f0
   have hput:Scr P wr (wr.setCells g (i * 3) (bnN ⟨#[45]⟩)):=scr_putn (P:=P) (W:=wr) (g:=g) (sz:=3) (T:=89) (cs:=cs) (i:=i) (b:=bnN ⟨#[45]⟩) sz_n hPg hgc (blankN _) hcs
   rw[setCells3] at hput
   have HS3:=Zh (HSr.out.trans hput)
   clear hput hth hg hgc hcs ha hsr hPg hr
   go_wp2_with fail
   have hre:∃j,j≤m∧Zi ((i:Int)+1)=Zi (j:Int)∧Scr P W (((wr.setCell ⟨g,i * 3,none⟩ (.string ⟨#[45]⟩)).setCell ⟨g,i * 3+1,none⟩ (Zi 0)).setCell ⟨g,i * 3+2,none⟩ (Zi 0)):=⟨i+1,by omega,by go_num,HS3.out⟩
   refine⟨?_,?_⟩
   ·repeat refine⟨undef,?_⟩
    exact hre
   ·simp[intOf];omega
  ·have hie:i=m:=by omega
   subst hie
   have hib:decide ((i:Int) < (i:Int))=false:=by simp
   have hgr:RowG P W wr 89 (.slice ao i q) i:=by
    obtain⟨a2,n2,c2,e,_,h⟩:=(HR.out wr hsr).rowG (W0:=W)
    simp only[Value.slice.injEq] at e
    obtain⟨_,rfl,_⟩:=e
    exact h
   have HS0:=Zh hsr
   have HGr:=Zh hgr
   clear hsr hgr
   go_wp2_with fail
   go_loopw[3,4] (fun x y wq=>∃(t r:Nat) (a9:Option Addr) (c9:Nat),t≤20∧r=i+t∧x=.slice a9 r c9∧y=Zi (t:Int)∧Hid (Scr P W wq∧RowG P W wq 89 (.slice a9 r c9) r)) (fun _ y _=>20 - (intOf y).toNat)
   case atStart=>exact⟨0,i,ao,q,by omega,rfl,rfl,rfl,Zh ⟨HS0.out,HGr.out⟩⟩
   case round=>
    obtain⟨t,r,a9,c9,ht,hr,rfl,rfl,HT⟩:=hrel
    by_cases hlt2:t < 20
    ·have hkI:(t:Int) < 20:=by omega
     have HAp:∀ty,∃v' W',(Builtin.append_ #[70,70] ty #[.slice a9 r c9,.slice (some ⟨wr.heap.size,0,none⟩) 1 1]).run Tryz.prog (wr.alloc (.cells #[.string ⟨#[43]⟩,Zi 0,Zi 0] 89))=.ok v' W'∧Scr P W W'∧RowG P W W' 89 v' (r+1)∧∃ao c,v'=.slice ao (r+1) c:=fun ty=>app_step (P:=P) (W0:=W) (W:=wr) (b:=bnN ⟨#[43]⟩) nameE2 HT.out.1 HT.out.2 (by omega) (blankN _) ty
     have HRt:=Zh hr
     clear hr
     go_wp2_with (first
      | (at_builtin;refine wpL_appR rfl _ _ _ rfl _ _ rfl rfl HAp ?_;rintro v9 w9 ⟨hs9,hg9,a10,c10,rfl⟩)
      | fail)
     have HT9:=Zh (And.intro hs9 hg9)
     clear hs9 hg9 HAp
     go_wp2_with fail
     go_roundw
     case rel=>exact⟨t+1,r+1,a10,c10,by omega,by have:=HRt.out;omega,rfl,by go_num,HT9⟩
     case measure=>simp[intOf];omega
    ·have hkI:¬(t:Int) < 20:=by omega
     have HF:=Zh HT.out.1
     clear hr ht hlt2
     go_wp2_with fail
     go_end0
     exact⟨rfl,HF.out⟩
end Go.Proofs.YtlfooogmoigpfaaGreatDoor
