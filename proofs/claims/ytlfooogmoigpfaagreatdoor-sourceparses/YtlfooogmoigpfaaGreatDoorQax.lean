import Derived.Test.YtlfooogmoigpfaaGreatDoorQaw
import Derived.Test.YtlfooogmoigpfaaGreatDoorProg
import Derived.WalkKit
import Derived.LaidEql
import Derived.Stop.Asserts
import Derived.RowKitTokens
import Derived.Test.YtlfooogmoigpfaaGreatDoorQad
import Derived.Deep.QuietTactic
import Derived.BigQuiet
import Derived.Test.YtlfooogmoigpfaaGreatDoorQai
import Derived.Test.YtlfooogmoigpfaaGreatDoorQaa
set_option maxRecDepth 100000
set_option maxHeartbeats 8000000
namespace Go.Proofs.YtlfooogmoigpfaaGreatDoor
open Go.RowKit Go.Sort Go.Shelf
theorem tkR_len2 (L:List UInt8):∀(f k:Nat) (acc ts:List Tok),tkR L f k acc=.ok ts→k≤L.length→ts.length+k≤acc.length+L.length
 | 0,k,acc,ts,h,hk=>by
  simp only[tkR,TR.ok.injEq] at h
  subst h
  omega
 | f+1,k,acc,ts,h,hk=>by
  rw[tkR_tkE] at h
  unfold tkE at h
  have h9:=KL_le (L.drop k)
  rw[List.length_drop] at h9
  by_cases h0:L.drop (k+KL (L.drop k))=[]
  ·rw[if_pos h0] at h
   simp only[TR.ok.injEq] at h
   subst h
   omega
  ·rw[if_neg h0] at h
   cases ht:tokA (L.drop (k+KL (L.drop k))) with
   | er x=>rw[ht] at h;cases h
   | ok kd t n=>
    rw[ht] at h
    have h1:=tokA_pos h0 ht
    have h2:=h1.2.1
    rw[List.length_drop] at h2
    have h3:=tkR_len2 L f _ _ ts h (by omega)
    rw[List.length_append,List.length_singleton] at h3
    have:=h1.1
    omega
def ParP (w:World) (L:List UInt8) (e:Ending) (w':World):Prop:=match parseL L with
 | .ok s=>∃v,e=.returned (.tuple #[v,.nilIface])∧okSrc (New noB w.heap.size) s v w'∧Below w.heap.size w w'
 | .er p x=>∃v,e=.returned (.tuple #[.agg #[Zn,Zn],v])∧ErrAt w' v p.1 p.2 (x:Int)∧Below w.heap.size w w'
structure D2 (w W:World) (v1 v2 v3:Value):Prop where
 b1:RowS W w.heap.size v1 v2
 b2:W.heap[w.heap.size+1]? = some (.cells #[v3] 31 (0,0))
 bel:Below w.heap.size w W
theorem D2.new (w:World):D2 w ((w.alloc (.cells #[Zn,Zn] 25)).alloc (.cells #[.nilIface] 31)) (Zn) (Zn) .nilIface:=
 ⟨(heap_alloc_old _ _ (by simp)).trans (heap_alloc_new _ _ rfl),heap_alloc_new _ _ (by simp),((Below.refl _ _).alloc (Nat.le_refl _) _).alloc (by simp) _⟩
theorem D2.t1 {w W W':World} {v1 v2 v3:Value} {sb:Nat} (h:D2 w W v1 v2 v3) (ht:T1 sb W W') (hs:w.heap.size+1 < sb):D2 w W' v1 v2 v3:=
 ⟨h.b1.t1 ht (by omega),(ht.block _ (blk_lt h.b2) (by omega)).trans h.b2,⟨ht.os.trans h.bel.os,ht.tape.trans h.bel.tape,ht.output.trans h.bel.output,Nat.le_trans h.bel.size ht.size,fun k hk=>(ht.block k (Nat.lt_of_lt_of_le hk h.bel.size) (by omega)).trans (h.bel.block k hk)⟩⟩
theorem D2.kept {w W W':World} {v1 v2 v3:Value} (h:D2 w W v1 v2 v3) (hb:Below W.heap.size W W'):D2 w W' v1 v2 v3:=
 ⟨h.b1.kept hb,(hb.block _ (blk_lt h.b2)).trans h.b2,h.bel.trans (hb.mono h.bel.size)⟩
theorem D2.err {w W:World} {v1 v2 v3:Value} (h:D2 w W v1 v2 v3) (v:Value):D2 w (W.setCell ⟨w.heap.size+1,0,none⟩ v) v1 v2 v:=
 ⟨(heap_setCell_other _ _ _ _ (by show w.heap.size≠w.heap.size+1;omega)).trans h.b1,heap_setCell_same _ _ 0 _ _ _ h.b2,h.bel.setCell (p:=⟨w.heap.size+1,0,none⟩) (by show w.heap.size≤w.heap.size+1;omega) v⟩
theorem D2.src {w W:World} {v1 v2 v3:Value} (h:D2 w W v1 v2 v3) (u1 u2:Value):D2 w ((W.setCell ⟨w.heap.size,0,none⟩ u1).setCell ⟨w.heap.size,1,none⟩ u2) u1 u2 v3:=
 ⟨heap_setCell_same _ _ 1 _ _ _ (heap_setCell_same _ _ 0 _ _ _ h.b1),(heap_setCell_other _ _ _ _ (by show w.heap.size+1≠w.heap.size;omega)).trans ((heap_setCell_other _ _ _ _ (by show w.heap.size+1≠w.heap.size;omega)).trans h.b2),(h.bel.setCell (p:=⟨w.heap.size,0,none⟩) (Nat.le_refl _) u1).setCell (p:=⟨w.heap.size,1,none⟩) (Nat.le_refl _) u2⟩
theorem tsat_of {W:World} {base rb:Nat} {v:Value} {ts:List Tok} (h:OwnT W base v ts) (hr:W.heap.size≤rb):TsAt W rb v ts:=by
 obtain⟨ao,c,rfl,_,hn,ha⟩:=own_slice h
 refine⟨ao,c,rfl,hn,?_⟩
 rcases own_read h with h2 | ⟨b,off,rfl,hc⟩
 ·exact .inl (List.eq_nil_of_length_eq_zero (by have:=tkc_len ts;rw[h2] at this;simp at this;omega))
 ·have hb:=(ha _ rfl).2.2
  exact .inr ⟨b,off,rfl,by show b < rb;simp only at hb;omega,hc⟩
theorem parseS_any (w:World) (L:List UInt8) (hL:L.length≤65536) (hT:TabsOK w) (hP:PairVar w) (hN:NumVars w) (hM:MLen w) (hj:JoVar w) (hjn:5 < w.heap.size) :
  Calls Tryz.prog 5 #[.string (S L)] w fun e w'=>ParP w L e w':=by
 have hmf:∀(fn:Fn) (first cap:Array Value) (w:World),(Instr.makeFunc fn first cap).run Tryz.prog w=.ok (.func fn first cap) w:=fun _ _ _ _=>rfl
 have hd0:=D2.new w
 obtain⟨W0,hW0⟩:=nm ((w.alloc (.cells #[Zn,Zn] 25)).alloc (.cells #[.nilIface] 31))
 rw[← hW0] at hd0
 have HTk:=Zh (tokens_any W0 L hL (hT.kept hd0.bel) (hP.kept hd0.bel) (hN.kept hd0.bel) (hM.kept hd0.bel))
 have HJ:Hid (JoVar w∧5 < w.heap.size∧L.length≤65536):=Zh ⟨hj,hjn,hL⟩
 have HD0:=Zh hd0
 obtain⟨sl,hsl⟩:=nm (S L)
 have HSl:=Zh hsl
 rw[← hsl] at HTk ⊢
 have HPar:Hid (parseL L=match tksA L with
  | .er p e=>.er p e
  | .ok ts=>match pSrc (spL (1,1) L) (ts.length+1) ⟨[],[]⟩ ts with
   | .er p e=>.er p e
   | .ok s _=>.ok s):=Zh rfl
 have HTL:Hid (∀ts,tksA L=.ok ts→ts.length≤70000):=Zh fun ts h=>by
  have:=tkR_len2 L _ 0 [] ts h (by omega)
  simp only[List.length_nil] at this
  omega
 clear hT hP hN hM hj hjn hL hd0 hsl
 go_enter_defers Tryz.func5,Tryz.ntmps5
 go_upto_region 1 with fail
 rw[← hW0]
 clear hW0
 go_wp2_with fail
 refine HTk.out.mono ?_
 clear HTk
 cases hk:tksA L with
 | er p x=>
  have HR:Hid (parseL L=.er p x):=Zh (by rw[HPar.out,hk])
  rintro e w1 ⟨ev,rfl,he,hb⟩
  have hd1:=HD0.out.kept hb
  obtain⟨t,pv,rfl⟩:∃t pv,ev=.iface t pv:=by
   obtain⟨b,e,_⟩:=he
   exact⟨_,_,e⟩
  obtain⟨w2,hw2⟩:=nm (w1.setCell ⟨w.heap.size+1,0,none⟩ (.iface t pv))
  have hd2:D2 w w2 (Zn) (Zn) (.iface t pv):=by rw[hw2];exact hd1.err _
  have he2:ErrAt w2 (.iface t pv) p.1 p.2 (x:Int):=by
   obtain⟨b,e1,e2⟩:=he
   refine⟨b,e1,?_⟩
   rw[hw2]
   refine (heap_setCell_other _ _ _ _ (fun q=>?_)).trans e2
   have h2:=hd1.b2
   have h3:w1.heap[w.heap.size+1]? = _:=q▸e2
   rw[h2] at h3
   simp at h3
  have c1:w1.cell? ⟨w.heap.size+1,0,none⟩=some .nilIface:=by simp[World.cell?,hd1.b2]
  have f1:=frozen_of_row w1 (w.heap.size+1) 0 _ _ hd1.b2
  have c2:w2.cell? ⟨w.heap.size+1,0,none⟩=some (.iface t pv):=by simp[World.cell?,hd2.b2]
  have HD2:=Zh hd2
  have HE2:=Zh he2
  clear he hb hd1 hd2 he2 HD0 HPar HTL HJ HSl hk
  go_upto_region 2 with fail
  rw[← hw2]
  clear hw2 c1 f1
  go_upto_region 3 with fail
  obtain⟨x0,x1⟩:=HD2.out.b1.cells
  obtain⟨f0,f1⟩:=HD2.out.b1.frz
  have f2:=frozen_of_row w2 (w.heap.size+1) 0 _ _ HD2.out.b2
  have hd7:=((HD2.out.src (Zn) (Zn)).err (.iface t pv)).kept (Grew.refl _).drew.below
  obtain⟨w7,hw7⟩:=nm ((((w2.setCell ⟨w.heap.size,0,none⟩ (Zn)).setCell ⟨w.heap.size,1,none⟩ (Zn)).setCell ⟨w.heap.size+1,0,none⟩ (.iface t pv)).drew)
  rw[← hw7] at hd7
  have he7:ErrAt w7 (.iface t pv) p.1 p.2 (x:Int):=by
   obtain⟨b,e1,e2⟩:=HE2.out
   refine⟨b,e1,?_⟩
   have q1:b≠w.heap.size:=fun q=>by
    have h2:w2.heap[w.heap.size]? = _:=HD2.out.b1
    have h3:w2.heap[w.heap.size]? = _:=q▸e2
    rw[h2] at h3
    simp at h3
   have q2:b≠w.heap.size+1:=fun q=>by
    have h2:=HD2.out.b2
    have h3:w2.heap[w.heap.size+1]? = _:=q▸e2
    rw[h2] at h3
    simp at h3
   rw[hw7]
   show ((((w2.setCell ⟨w.heap.size,0,none⟩ (Zn)).setCell ⟨w.heap.size,1,none⟩ (Zn)).setCell ⟨w.heap.size+1,0,none⟩ (.iface t pv))).heap[b]? = _
   rw[heap_setCell_other _ ⟨w.heap.size+1,0,none⟩ _ _ q2,heap_setCell_other _ ⟨w.heap.size,1,none⟩ _ _ q1,heap_setCell_other _ ⟨w.heap.size,0,none⟩ _ _ q1]
   exact e2
  have HF:Hid (ParP w L (.returned (.tuple #[.agg #[Zn,Zn],.iface t pv])) w7):=Zh (by
   unfold ParP
   rw[HR.out]
   exact⟨_,rfl,he7,hd7.bel⟩)
  obtain⟨k1,k2⟩:=hd7.b1.cells
  have k3:w7.cell? ⟨w.heap.size+1,0,none⟩=some (.iface t pv):=by simp[World.cell?,hd7.b2]
  have HK:Hid (w7.cell? ⟨w.heap.size,0,none⟩=some (Zn)∧w7.cell? ⟨w.heap.size,1,none⟩=some (Zn)∧w7.cell? ⟨w.heap.size+1,0,none⟩=some (.iface t pv)):=Zh ⟨k1,k2,k3⟩
  clear hd7 he7 k1 k2 k3 HD2 HE2 HR
  go_region
  rw[← hw7]
  clear hw7 x0 x1 f0 f1 f2 c2
  go_wp2
  obtain⟨k1,k2,k3⟩:=HK.out
  show Leaves _ _ _ _ [] .returning _
  simp[Leaves,results,Tryz.results5,go_sem,k1,k2,k3]
  exact HF.out
 | ok ts=>
  rintro e w1 ⟨a,c,rfl,ho,hb⟩
  have hd1:=HD0.out.kept hb
  have hne:W0.heap.size≤w1.heap.size:=hb.size
  obtain⟨w2,hw2⟩:=nm (w1.setCell ⟨w.heap.size+1,0,none⟩ .nilIface)
  have hd2:D2 w w2 (Zn) (Zn) .nilIface:=by rw[hw2];exact hd1.err _
  have h0:=blk_lt HD0.out.b2
  have ho2:OwnT w2 W0.heap.size (.slice a ts.length c) ts:=ownsRow_same ho (fun g hg=>by
   rw[hw2]
   exact heap_setCell_other _ _ _ _ (by show g≠w.heap.size+1;have:=(World.ownsRow.lt ho g hg).1;omega))
  have c1:w1.cell? ⟨w.heap.size+1,0,none⟩=some .nilIface:=by simp[World.cell?,hd1.b2]
  have f1:=frozen_of_row w1 (w.heap.size+1) 0 _ _ hd1.b2
  have c2:w2.cell? ⟨w.heap.size+1,0,none⟩=some .nilIface:=by simp[World.cell?,hd2.b2]
  have HD2:=Zh hd2
  have HO2:=Zh ho2
  have HLn:Hid (ts.length≤70000):=Zh (HTL.out ts hk)
  have HR:Hid (parseL L=match pSrc (spL (1,1) L) (ts.length+1) ⟨[],[]⟩ ts with
   | .er p e=>.er p e
   | .ok s _=>.ok s):=Zh (by rw[HPar.out,hk])
  obtain⟨n,hn⟩:=nm (ts.length)
  have HNn:=Zh hn
  rw[← hn]
  clear ho hb hd1 hne hd2 h0 ho2 HD0 HPar HTL hk hn
  go_upto_region 2 with fail
  rw[← hw2]
  clear hw2 c1 f1
  go_wp2_with fail
  have hst:=Zh (start_any w2)
  refine hst.out.mono ?_
  clear hst
  rintro e w3 ⟨rfl,hb3⟩
  have HD3:=Zh (HD2.out.kept hb3)
  have HO3:=Zh (HO2.out.kept hb3)
  have hbh:=behind_any w3 (1,1) L HJ.out.2.2 (by decide)
  rw[← HSl.out] at hbh
  generalize spL (1,1) L=q at *
  obtain⟨ql,qc⟩:=q
  have HBh:Hid (Calls Tryz.prog 15 #[.agg #[Zi 1,Zi 1],.string sl] w3 fun e w'=>e=.returned (.agg #[Zi (ql:Int),Zi (qc:Int)])∧Below w3.heap.size w3 w'):=Zh hbh
  clear hbh hb3 HD2 HO2 c2
  go_wp2_with fail
  refine HBh.out.mono ?_
  clear HBh
  rintro e w4 ⟨rfl,hb4⟩
  have hd4:=HD3.out.kept hb4
  have ho4:=HO3.out.kept hb4
  obtain⟨rb,hrb⟩:=nm (w4.heap.size)
  obtain⟨w5,hw5⟩:=nm (w4.alloc (.cells #[.slice a n c,Zi (ql:Int),Zi (qc:Int),Zi 0] 57))
  have hb5:Below w4.heap.size w4 w5:=by rw[hw5];exact bel_al _ _
  have HD5:=Zh (hd4.kept hb5)
  have hrd:RdB w5 rb ts (ql,qc) 0 (.slice a n c):=by
   refine⟨by rw[hw5,hrb];exact heap_alloc_new _ _ rfl,TsAt.same ?_ (fun k hk=>hb5.block k (by omega))⟩
   rw[HNn.out]
   exact tsat_of ho4 (by omega)
  have hlt5:=blk_lt hrd.box
  have hb05:=(hd4.kept hb5).bel
  have hrw:w.heap.size+1 < rb:=by have:=blk_lt hd4.b2;omega
  have hjn:5≠rb:=by have:=HJ.out.2.1;omega
  have hqs:QS w5 w5 rb ts (ql,qc) 0 (.slice a n c):=QS.start hrd (HJ.out.1.kept hb05) hjn
  have HS5:=Zh (source_any w5 rb ts (ql,qc) _ hqs HLn.out)
  have HRw:Hid (w.heap.size+1 < rb∧w.heap.size≤w5.heap.size):=Zh ⟨hrw,hb05.size⟩
  generalize pSrc (ql,qc) (ts.length+1) ⟨[],[]⟩ ts=M at *
  clear hb4 hd4 ho4 hb5 hrd hlt5 hb05 hrw hjn hqs HD3 HO3 HLn HNn HJ HSl
  go_upto_region 6 with fail
  rw[← hw5,← hrb]
  clear hw5 hrb
  go_wp2_with fail
  refine HS5.out.mono ?_
  clear HS5
  cases M with
  | er p x=>
   rintro e w6 ⟨rfl,ht⟩
   have HD6:=Zh (HD5.out.t1 ht HRw.out.1)
   have HR2:Hid (parseL L=.er p x):=HR
   clear ht HD5 HR
   go_wp2
   refine leaves_cons (f:=13) (args:=#[.pointer (some ⟨w.heap.size,0,none⟩),.pointer (some ⟨w.heap.size+1,0,none⟩)]) (by simp) (by simp[go_sem]) ?_
   refine (catchS_fault w.heap.size (w.heap.size+1) p x [] w6 _ _ _ HD6.out.b1 HD6.out.b2 (by omega)).mono ?_
   rintro e2 u' w7 ⟨rfl,rfl,g1,⟨ev,g2,ge⟩,hfr,hsz,ho,ht,hou⟩
   have HF:Hid (ParP w L (.returned (.tuple #[.agg #[Zn,Zn],ev])) w7):=Zh (by
    unfold ParP
    rw[HR2.out]
    have hb:=HD6.out.bel
    exact⟨ev,rfl,ge,ho.trans hb.os,ht.trans hb.tape,hou.trans hb.output,Nat.le_trans hb.size hsz,fun k hk=>(hfr k (Nat.lt_of_lt_of_le hk hb.size) (by omega) (by omega)).trans (hb.block k hk)⟩)
   obtain⟨k1,k2⟩:=g1.cells
   have k3:w7.cell? ⟨w.heap.size+1,0,none⟩=some ev:=by simp[World.cell?,g2]
   clear hfr hsz ho ht hou g1 g2 ge
   simp[Leaves,settle,results,Tryz.results5,go_sem,k1,k2,k3]
   exact HF.out
  | ok s r=>
   rintro e w6 ⟨sv,v6,rfl,hs,hr6,ht⟩
   obtain⟨cv,pv,cs,ps,rfl,o1,o2,o3⟩:=hs
   obtain⟨ca,cc,rfl,_⟩:=own_slice o1
   obtain⟨pa,pc,rfl,_⟩:=own_slice o2
   have hok:okSrc (New noB w5.heap.size) s (.agg #[.slice ca s.consts.length cc,.slice pa s.procs.length pc]) w6:=⟨_,_,cs,ps,rfl,o1,o2,o3⟩
   have hd6:=HD5.out.t1 ht HRw.out.1
   have hsm:=hd6.src (.slice ca s.consts.length cc) (.slice pa s.procs.length pc)
   have hd7:=hsm.err .nilIface
   obtain⟨n1,hn1⟩:=nm (s.consts.length)
   obtain⟨n2,hn2⟩:=nm (s.procs.length)
   rw[← hn1,← hn2] at hok hsm hd7
   obtain⟨w7,hw7⟩:=nm (((w6.setCell ⟨w.heap.size,0,none⟩ (.slice ca n1 cc)).setCell ⟨w.heap.size,1,none⟩ (.slice pa n2 pc)).setCell ⟨w.heap.size+1,0,none⟩ .nilIface)
   have hoth:∀k,w.heap.size+1 < k→w7.heap[k]? = w6.heap[k]?:=fun k hk=>by
    rw[hw7,heap_setCell_other _ ⟨w.heap.size+1,0,none⟩ _ _ (by show k≠w.heap.size+1;omega),heap_setCell_other _ ⟨w.heap.size,1,none⟩ _ _ (by show k≠w.heap.size;omega),heap_setCell_other _ ⟨w.heap.size,0,none⟩ _ _ (by show k≠w.heap.size;omega)]
   rw[← hw7] at hd7
   have hz:=blk_lt HD5.out.b2
   have HF:Hid (ParP w L (.returned (.tuple #[.agg #[.slice ca n1 cc,.slice pa n2 pc],.nilIface])) w7):=Zh (by
    unfold ParP
    rw[HR.out]
    exact⟨_,rfl,okSrc_f _ _ _ _ _ _ hok (fun k hk=>hk.imp id (fun h=>by omega)) (fun k hk _=>hoth k (by
     rcases hk with hk | hk
     ·exact hk.elim
     ·omega)),hd7.bel⟩)
   obtain⟨x0,x1⟩:=hd6.b1.cells
   obtain⟨f0,f1⟩:=hd6.b1.frz
   have hm1:RowS (w6.setCell ⟨w.heap.size,0,none⟩ (.slice ca n1 cc)) w.heap.size (.slice ca n1 cc) (Zn):=heap_setCell_same _ _ 0 _ _ _ hd6.b1
   obtain⟨_,x11⟩:=hm1.cells
   obtain⟨_,f11⟩:=hm1.frz
   have c2:((w6.setCell ⟨w.heap.size,0,none⟩ (.slice ca n1 cc)).setCell ⟨w.heap.size,1,none⟩ (.slice pa n2 pc)).cell? ⟨w.heap.size+1,0,none⟩=some .nilIface:=by simp[World.cell?,hsm.b2]
   have f2:=frozen_of_row _ (w.heap.size+1) 0 _ _ hsm.b2
   obtain⟨k1,k2⟩:=hd7.b1.cells
   have k3:w7.cell? ⟨w.heap.size+1,0,none⟩=some .nilIface:=by simp[World.cell?,hd7.b2]
   have HK:Hid (w7.cell? ⟨w.heap.size,0,none⟩=some (.slice ca n1 cc)∧w7.cell? ⟨w.heap.size,1,none⟩=some (.slice pa n2 pc)∧w7.cell? ⟨w.heap.size+1,0,none⟩=some .nilIface):=Zh ⟨k1,k2,k3⟩
   clear hr6 ht hok o1 o2 o3 hd6 hsm hd7 hoth hz hm1 k1 k2 k3 HD5 HR HRw
   rw[← hn1,← hn2]
   clear hn1 hn2
   go_wp2
   rw[← hw7]
   clear hw7 x0 x1 f0 f1 x11 f11 c2 f2
   refine leaves_cons (f:=13) (args:=#[.pointer (some ⟨w.heap.size,0,none⟩),.pointer (some ⟨w.heap.size+1,0,none⟩)]) (by simp) (by simp[go_sem]) ?_
   refine (catchS_idle _ _ _).mono ?_
   rintro e3 u' w8 ⟨rfl,rfl,hw8⟩
   subst hw8
   obtain⟨k1,k2,k3⟩:=HK.out
   simp[Leaves,settle,results,Tryz.results5,go_sem,k1,k2,k3]
   exact HF.out
end Go.Proofs.YtlfooogmoigpfaaGreatDoor
namespace Go.Proofs.YtlfooogmoigpfaaGreatDoor
open Go.RowKit Go.Extern.Stop Go.Stop Go.Extern
theorem cell_lt' {w:World} {a:Addr} {v:Value} (h:w.cell? a=some v):a.block < w.heap.size:=by
 rcases Nat.lt_or_ge a.block w.heap.size with h1 | h1
 ·exact h1
 ·simp[World.cell?,Array.getElem?_eq_none h1] at h
theorem m_kind (h : Value) (w : World) : (Go.method 354 139 (.agg #[h]) "Kind").run Tryz.prog w = .ok (197, h) w := by kernel_rfl
theorem m_elem (h : Value) (w : World) : (Go.method 354 139 (.agg #[h]) "Elem").run Tryz.prog w = .ok (209, .agg #[h]) w := by kernel_rfl
theorem m_impl (h : Value) (w : World) : (Go.method 354 139 (.agg #[h]) "Implements").run Tryz.prog w = .ok (210, .agg #[h]) w := by kernel_rfl
theorem m_asgn (h : Value) (w : World) : (Go.method 354 139 (.agg #[h]) "AssignableTo").run Tryz.prog w = .ok (207, .agg #[h]) w := by kernel_rfl
theorem valTP (t:Addr) (w:World):(ReflectliteValue.unpack (.iface 60 (.pointer (some t)))).run Tryz.prog w=.ok (.agg #[.pointer (some ⟨11,60,none⟩),.pointer (some ⟨w.heap.size,0,none⟩),.int .u64 150]) (w.alloc (.cells #[.pointer (some t)] 60)):=by kernel_rfl
theorem typTP (a : Addr) (w : World) : (ReflectliteValue.methodAny (ReflectliteValue.valueError "reflectlite.Value.Type" 0) (fun t _ _ _ => ReflectliteType.toType t) #[.agg #[.pointer (some ⟨11, 60, none⟩), .pointer (some a), .int .u64 150]]).run Tryz.prog w = .ok (.iface 139 (.agg #[.pointer (some ⟨11, 60, none⟩)])) w := by kernel_rfl
theorem kindTP (w:World):((ReflectliteType.abiMethod fun t=>(fun a:Nat=>Value.int IntKind.u8 (a:Int)) <$> Rtype.kind t) #[.pointer (some ⟨11,60,none⟩)]).run Tryz.prog w=.ok (.int .u8 22) w:=by kernel_rfl
theorem kindEP (w:World):((ReflectliteType.abiMethod fun t=>(fun a:Nat=>Value.int IntKind.u8 (a:Int)) <$> Rtype.kind t) #[.pointer (some ⟨11,58,none⟩)]).run Tryz.prog w=.ok (.int .u8 22) w:=by kernel_rfl
theorem partTP (a:Addr) (w:World):(ReflectliteValue.parts (.agg #[.pointer (some ⟨11,60,none⟩),.pointer (some a),.int .u64 150])).run Tryz.prog w=.ok (some (60,a,150)) w:=by kernel_rfl
theorem isNilP (a p:Addr) (W:World) (ha:W.cell? a=some (.pointer (some p))) :
  (ReflectliteValue.method (ReflectliteValue.valueError "reflectlite.Value.IsNil" 0) ReflectliteValue.isNil #[.agg #[.pointer (some ⟨11, 60, none⟩), .pointer (some a), .int .u64 150]]).run Tryz.prog W = .ok (.bool false) W := by
 rw [show ReflectliteValue.method (ReflectliteValue.valueError "reflectlite.Value.IsNil" 0) ReflectliteValue.isNil #[.agg #[.pointer (some ⟨11, 60, none⟩), .pointer (some a), .int .u64 150]] = (ReflectliteValue.parts (.agg #[.pointer (some ⟨11, 60, none⟩), .pointer (some a), .int .u64 150]) >>= fun p => _) from rfl]
 simp only[Sem.run_bind,partTP,Result.andThen]
 simp[ReflectliteValue.isNil,loadVar,isAgg,underlying,Tryz.underlying60,ha,Result.andThen]
theorem elemTP (w:World):(ReflectliteType.method ReflectliteType.elem #[.agg #[.pointer (some ⟨11,60,none⟩)]]).run Tryz.prog w=.ok (.iface 139 (.agg #[.pointer (some ⟨11,58,none⟩)])) w:=by kernel_rfl
theorem typeEP (v:Value) (w:World):(ReflectliteType.typeOf #[.iface 58 v]).run Tryz.prog w=.ok (.iface 139 (.agg #[.pointer (some ⟨11,58,none⟩)])) w:=by kernel_rfl
theorem asgnP (w : World) : (ReflectliteType.relation "AssignableTo" ReflectliteType.assignableTo #[.agg #[.pointer (some ⟨11, 58, none⟩)], .iface 139 (.agg #[.pointer (some ⟨11, 58, none⟩)])]).run Tryz.prog w = .ok (.bool true) w := by kernel_rfl
theorem implP (w : World) : (ReflectliteType.relation "Implements" ReflectliteType.implements_ #[.agg #[.pointer (some ⟨11, 58, none⟩)], .iface 139 (.agg #[.pointer (some ⟨11, 31, none⟩)])]).run Tryz.prog w = .ok (.bool true) w := by kernel_rfl
theorem valEP (e:Addr) (w:World):(ReflectliteValue.unpack (.iface 58 (.pointer (some e)))).run Tryz.prog w=.ok (.agg #[.pointer (some ⟨11,58,none⟩),.pointer (some ⟨w.heap.size,0,none⟩),.int .u64 150]) (w.alloc (.cells #[(.pointer (some e))] 58)):=by kernel_rfl
theorem elOfP (w:World):(Rtype.elem? 60).run Tryz.prog w=.ok (some 58) w:=by kernel_rfl
theorem mkEP (p:Addr) (w:World):(ReflectliteValue.mk 58 p ReflectliteValue.flagAddr).run Tryz.prog w=.ok (.agg #[.pointer (some ⟨11,58,none⟩),.pointer (some p),.int .u64 406]) w:=by kernel_rfl
theorem elVP (a p:Addr) (W:World) (ha:W.cell? a=some (.pointer (some p))) :
  (ReflectliteValue.method (ReflectliteValue.valueError "reflectlite.Value.Elem" 0) ReflectliteValue.elem #[.agg #[.pointer (some ⟨11, 60, none⟩), .pointer (some a), .int .u64 150]]).run Tryz.prog W = .ok (.agg #[.pointer (some ⟨11, 58, none⟩), .pointer (some p), .int .u64 406]) W := by
 rw [show ReflectliteValue.method (ReflectliteValue.valueError "reflectlite.Value.Elem" 0) ReflectliteValue.elem #[.agg #[.pointer (some ⟨11, 60, none⟩), .pointer (some a), .int .u64 150]] = (ReflectliteValue.parts (.agg #[.pointer (some ⟨11, 60, none⟩), .pointer (some a), .int .u64 150]) >>= fun p => _) from rfl]
 simp only[Sem.run_bind,partTP,Result.andThen]
 simp[ReflectliteValue.elem,loadVar,isAgg,underlying,Tryz.underlying60,ha,Result.andThen,elOfP,mkEP]
theorem partAP (a:Addr) (w:World):(ReflectliteValue.parts (.agg #[.pointer (some ⟨11,58,none⟩),.pointer (some a),.int .u64 406])).run Tryz.prog w=.ok (some (58,a,406)) w:=by kernel_rfl
theorem partEP (a:Addr) (w:World):(ReflectliteValue.parts (.agg #[.pointer (some ⟨11,58,none⟩),.pointer (some a),.int .u64 150])).run Tryz.prog w=.ok (some (58,a,150)) w:=by kernel_rfl
theorem dirP (w:World):(Rtype.directlyAssignable 58 58).run Tryz.prog w=.ok true w:=by kernel_rfl
theorem setP (ta b:Addr) (e:Addr) (old:Value) (W:World) (hb:W.cell? b=some (.pointer (some e))) (ht:W.cell? ta=some old) (hf:W.frozen? ta=false) :
  (ReflectliteValue.set #[.agg #[.pointer (some ⟨11,58,none⟩),.pointer (some ta),.int .u64 406],.agg #[.pointer (some ⟨11,58,none⟩),.pointer (some b),.int .u64 150]]).run Tryz.prog W=.ok (.tuple #[]) (W.setCell ta (.pointer (some e))):=by
 rw[show ReflectliteValue.set #[.agg #[.pointer (some ⟨11,58,none⟩),.pointer (some ta),.int .u64 406],.agg #[.pointer (some ⟨11,58,none⟩),.pointer (some b),.int .u64 150]]=(ReflectliteValue.parts (.agg #[.pointer (some ⟨11,58,none⟩),.pointer (some ta),.int .u64 406]) >>= fun p=>ReflectliteValue.parts (.agg #[.pointer (some ⟨11,58,none⟩),.pointer (some b),.int .u64 150]) >>= fun q=>_) from rfl]
 simp only[Sem.run_bind,partAP,partEP,Result.andThen]
 simp[ReflectliteValue.flagAddr,loadVar,isAgg,underlying,Tryz.underlying58,hb,Result.andThen,dirP,storeVar,Value.cells,storeCells,Addr.add]
 rw[run_store Tryz.prog W ta _ _ (by rfl)]
 simp[ht,hf]
theorem valTN (t:Addr) (w:World):(ReflectliteValue.unpack (.iface 63 (.pointer (some t)))).run Tryz.prog w=.ok (.agg #[.pointer (some ⟨11,63,none⟩),.pointer (some ⟨w.heap.size,0,none⟩),.int .u64 150]) (w.alloc (.cells #[.pointer (some t)] 63)):=by kernel_rfl
theorem typTN (a : Addr) (w : World) : (ReflectliteValue.methodAny (ReflectliteValue.valueError "reflectlite.Value.Type" 0) (fun t _ _ _ => ReflectliteType.toType t) #[.agg #[.pointer (some ⟨11, 63, none⟩), .pointer (some a), .int .u64 150]]).run Tryz.prog w = .ok (.iface 139 (.agg #[.pointer (some ⟨11, 63, none⟩)])) w := by kernel_rfl
theorem kindTN (w:World):((ReflectliteType.abiMethod fun t=>(fun a:Nat=>Value.int IntKind.u8 (a:Int)) <$> Rtype.kind t) #[.pointer (some ⟨11,63,none⟩)]).run Tryz.prog w=.ok (.int .u8 22) w:=by kernel_rfl
theorem kindEN (w:World):((ReflectliteType.abiMethod fun t=>(fun a:Nat=>Value.int IntKind.u8 (a:Int)) <$> Rtype.kind t) #[.pointer (some ⟨11,50,none⟩)]).run Tryz.prog w=.ok (.int .u8 2) w:=by kernel_rfl
theorem partTN (a:Addr) (w:World):(ReflectliteValue.parts (.agg #[.pointer (some ⟨11,63,none⟩),.pointer (some a),.int .u64 150])).run Tryz.prog w=.ok (some (63,a,150)) w:=by kernel_rfl
theorem isNilN (a p:Addr) (W:World) (ha:W.cell? a=some (.pointer (some p))) :
  (ReflectliteValue.method (ReflectliteValue.valueError "reflectlite.Value.IsNil" 0) ReflectliteValue.isNil #[.agg #[.pointer (some ⟨11, 63, none⟩), .pointer (some a), .int .u64 150]]).run Tryz.prog W = .ok (.bool false) W := by
 rw [show ReflectliteValue.method (ReflectliteValue.valueError "reflectlite.Value.IsNil" 0) ReflectliteValue.isNil #[.agg #[.pointer (some ⟨11, 63, none⟩), .pointer (some a), .int .u64 150]] = (ReflectliteValue.parts (.agg #[.pointer (some ⟨11, 63, none⟩), .pointer (some a), .int .u64 150]) >>= fun p => _) from rfl]
 simp only[Sem.run_bind,partTN,Result.andThen]
 simp[ReflectliteValue.isNil,loadVar,isAgg,underlying,Tryz.underlying63,ha,Result.andThen]
theorem elemTN (w:World):(ReflectliteType.method ReflectliteType.elem #[.agg #[.pointer (some ⟨11,63,none⟩)]]).run Tryz.prog w=.ok (.iface 139 (.agg #[.pointer (some ⟨11,50,none⟩)])) w:=by kernel_rfl
theorem typeEN (v:Value) (w:World):(ReflectliteType.typeOf #[.iface 50 v]).run Tryz.prog w=.ok (.iface 139 (.agg #[.pointer (some ⟨11,50,none⟩)])) w:=by kernel_rfl
theorem asgnN (w : World) : (ReflectliteType.relation "AssignableTo" ReflectliteType.assignableTo #[.agg #[.pointer (some ⟨11, 50, none⟩)], .iface 139 (.agg #[.pointer (some ⟨11, 50, none⟩)])]).run Tryz.prog w = .ok (.bool true) w := by kernel_rfl
theorem implN (w : World) : (ReflectliteType.relation "Implements" ReflectliteType.implements_ #[.agg #[.pointer (some ⟨11, 50, none⟩)], .iface 139 (.agg #[.pointer (some ⟨11, 31, none⟩)])]).run Tryz.prog w = .ok (.bool true) w := by kernel_rfl
theorem valEN (e:Int) (w:World):(ReflectliteValue.unpack (.iface 50 (Zi e))).run Tryz.prog w=.ok (.agg #[.pointer (some ⟨11,50,none⟩),.pointer (some ⟨w.heap.size,0,none⟩),.int .u64 130]) (w.alloc (.cells #[(Zi e)] 50)):=by kernel_rfl
theorem elOfN (w:World):(Rtype.elem? 63).run Tryz.prog w=.ok (some 50) w:=by kernel_rfl
theorem mkEN (p:Addr) (w:World):(ReflectliteValue.mk 50 p ReflectliteValue.flagAddr).run Tryz.prog w=.ok (.agg #[.pointer (some ⟨11,50,none⟩),.pointer (some p),.int .u64 386]) w:=by kernel_rfl
theorem elVN (a p:Addr) (W:World) (ha:W.cell? a=some (.pointer (some p))) :
  (ReflectliteValue.method (ReflectliteValue.valueError "reflectlite.Value.Elem" 0) ReflectliteValue.elem #[.agg #[.pointer (some ⟨11, 63, none⟩), .pointer (some a), .int .u64 150]]).run Tryz.prog W = .ok (.agg #[.pointer (some ⟨11, 50, none⟩), .pointer (some p), .int .u64 386]) W := by
 rw [show ReflectliteValue.method (ReflectliteValue.valueError "reflectlite.Value.Elem" 0) ReflectliteValue.elem #[.agg #[.pointer (some ⟨11, 63, none⟩), .pointer (some a), .int .u64 150]] = (ReflectliteValue.parts (.agg #[.pointer (some ⟨11, 63, none⟩), .pointer (some a), .int .u64 150]) >>= fun p => _) from rfl]
 simp only[Sem.run_bind,partTN,Result.andThen]
 simp[ReflectliteValue.elem,loadVar,isAgg,underlying,Tryz.underlying63,ha,Result.andThen,elOfN,mkEN]
theorem partAN (a:Addr) (w:World):(ReflectliteValue.parts (.agg #[.pointer (some ⟨11,50,none⟩),.pointer (some a),.int .u64 386])).run Tryz.prog w=.ok (some (50,a,386)) w:=by kernel_rfl
theorem partEN (a:Addr) (w:World):(ReflectliteValue.parts (.agg #[.pointer (some ⟨11,50,none⟩),.pointer (some a),.int .u64 130])).run Tryz.prog w=.ok (some (50,a,130)) w:=by kernel_rfl
theorem dirN (w:World):(Rtype.directlyAssignable 50 50).run Tryz.prog w=.ok true w:=by kernel_rfl
theorem setN (ta b:Addr) (e:Int) (old:Value) (W:World) (hb:W.cell? b=some (Zi e)) (ht:W.cell? ta=some old) (hf:W.frozen? ta=false) :
  (ReflectliteValue.set #[.agg #[.pointer (some ⟨11,50,none⟩),.pointer (some ta),.int .u64 386],.agg #[.pointer (some ⟨11,50,none⟩),.pointer (some b),.int .u64 130]]).run Tryz.prog W=.ok (.tuple #[]) (W.setCell ta (Zi e)):=by
 rw[show ReflectliteValue.set #[.agg #[.pointer (some ⟨11,50,none⟩),.pointer (some ta),.int .u64 386],.agg #[.pointer (some ⟨11,50,none⟩),.pointer (some b),.int .u64 130]]=(ReflectliteValue.parts (.agg #[.pointer (some ⟨11,50,none⟩),.pointer (some ta),.int .u64 386]) >>= fun p=>ReflectliteValue.parts (.agg #[.pointer (some ⟨11,50,none⟩),.pointer (some b),.int .u64 130]) >>= fun q=>_) from rfl]
 simp only[Sem.run_bind,partAN,partEN,Result.andThen]
 simp[ReflectliteValue.flagAddr,loadVar,isAgg,underlying,Tryz.underlying50,hb,Result.andThen,dirN,storeVar,Value.cells,storeCells,Addr.add]
 rw[run_store Tryz.prog W ta _ _ (by rfl)]
 simp[ht,hf]
theorem as_hitP (e:Addr) (t:Addr) (old:Value) (w:World) (hg:w.cell? ⟨0,0,none⟩=some (.iface 139 (.agg #[.pointer (some ⟨11,31,none⟩)]))) (ht0:w.cell? t=some old) (hf0:w.frozen? t=false) :
  Calls Tryz.prog 18 #[.iface 58 (.pointer (some e)),.iface 60 (.pointer (some t))] w fun ev w'=>ev=.returned (.bool true)∧w'=(((((w.alloc (.cells #[.pointer (some t)] 60)).alloc (.cells #[.pointer (some ⟨11,60,none⟩),.pointer (some ⟨w.heap.size,0,none⟩),.int .u64 150] 106)).alloc (.cells #[.pointer (some ⟨11,60,none⟩),.pointer (some ⟨w.heap.size,0,none⟩),.int .u64 150] 106)).alloc (.cells #[(.pointer (some e))] 58)).setCell t (.pointer (some e))):=by
 have h1:=@run_callFunc_extern Tryz.prog 48 _ (fun args=>ReflectliteValue.unpack (args.getD 0 (.tuple #[]))) Tryz.func48 (by kernel_rfl) (by kernel_rfl) (by kernel_rfl) (by kernel_rfl)
 have h2 := @run_callFunc_extern Tryz.prog 49 _ (ReflectliteValue.methodAny (ReflectliteValue.valueError "reflectlite.Value.Type" 0) (fun t _ _ _ => ReflectliteType.toType t)) Tryz.func49 (by kernel_rfl) (by kernel_rfl) (by kernel_rfl) (by kernel_rfl)
 have h3 := @run_callFunc_extern Tryz.prog 50 _ (ReflectliteValue.method (ReflectliteValue.valueError "reflectlite.Value.IsNil" 0) ReflectliteValue.isNil) Tryz.func50 (by kernel_rfl) (by kernel_rfl) (by kernel_rfl) (by kernel_rfl)
 have h4:=@run_callFunc_extern Tryz.prog 197 _ (ReflectliteType.abiMethod fun t=>do pure (.int .u8 (← Rtype.kind t))) Tryz.func197 (by kernel_rfl) (by kernel_rfl) (by kernel_rfl) (by kernel_rfl)
 have h5:=@run_callFunc_extern Tryz.prog 209 _ (ReflectliteType.method ReflectliteType.elem) Tryz.func209 (by kernel_rfl) (by kernel_rfl) (by kernel_rfl) (by kernel_rfl)
 have h6 := @run_callFunc_extern Tryz.prog 210 _ (ReflectliteType.relation "Implements" ReflectliteType.implements_) Tryz.func210 (by kernel_rfl) (by kernel_rfl) (by kernel_rfl) (by kernel_rfl)
 have h7:=@run_callFunc_extern Tryz.prog 87 _ ReflectliteType.typeOf Tryz.func87 (by kernel_rfl) (by kernel_rfl) (by kernel_rfl) (by kernel_rfl)
 have h8 := @run_callFunc_extern Tryz.prog 207 _ (ReflectliteType.relation "AssignableTo" ReflectliteType.assignableTo) Tryz.func207 (by kernel_rfl) (by kernel_rfl) (by kernel_rfl) (by kernel_rfl)
 have h9 := @run_callFunc_extern Tryz.prog 88 _ (ReflectliteValue.method (ReflectliteValue.valueError "reflectlite.Value.Elem" 0) ReflectliteValue.elem) Tryz.func88 (by kernel_rfl) (by kernel_rfl) (by kernel_rfl) (by kernel_rfl)
 have h10:=@run_callFunc_extern Tryz.prog 89 _ ReflectliteValue.set Tryz.func89 (by kernel_rfl) (by kernel_rfl) (by kernel_rfl) (by kernel_rfl)
 have f1:=valTP
 have f2:=typTP
 have f3:=m_kind
 have f4:=m_elem
 have f5:=m_impl
 have f6:=m_asgn
 have f7:=kindTP
 have f8:=kindEP
 have f9:=elemTP
 have f10:=typeEP
 have f11:=asgnP
 have f12:=implP
 have f13:=valEP
 have n8:=isNilP ⟨w.heap.size,0,none⟩ t ((w.alloc (.cells #[.pointer (some t)] 60)).alloc (.cells #[.pointer (some ⟨11,60,none⟩),.pointer (some ⟨w.heap.size,0,none⟩),.int .u64 150] 106)) (by simp)
 have hlt:0 < w.heap.size:=cell_lt' hg
 have hg2:((w.alloc (.cells #[.pointer (some t)] 60)).alloc (.cells #[.pointer (some ⟨11,60,none⟩),.pointer (some ⟨w.heap.size,0,none⟩),.int .u64 150] 106)).cell? ⟨0,0,none⟩=some (.iface 139 (.agg #[.pointer (some ⟨11,31,none⟩)])):=by
  rw[World.cell?_alloc_lt _ _ ⟨0,0,none⟩ (by simp <;> omega),World.cell?_alloc_lt _ _ ⟨0,0,none⟩ hlt];exact hg
 have htl:t.block < w.heap.size:=cell_lt' ht0
 have el:=elVP ⟨w.heap.size,0,none⟩ t (((w.alloc (.cells #[.pointer (some t)] 60)).alloc (.cells #[.pointer (some ⟨11,60,none⟩),.pointer (some ⟨w.heap.size,0,none⟩),.int .u64 150] 106)).alloc (.cells #[.pointer (some ⟨11,60,none⟩),.pointer (some ⟨w.heap.size,0,none⟩),.int .u64 150] 106)) (by rw[World.cell?_alloc_lt _ _ ⟨w.heap.size,0,none⟩ (by simp;omega),World.cell?_alloc_lt _ _ ⟨w.heap.size,0,none⟩ (by simp)];simp)
 have st:=setP t ⟨w.heap.size+1+1+1,0,none⟩ e old ((((w.alloc (.cells #[.pointer (some t)] 60)).alloc (.cells #[.pointer (some ⟨11,60,none⟩),.pointer (some ⟨w.heap.size,0,none⟩),.int .u64 150] 106)).alloc (.cells #[.pointer (some ⟨11,60,none⟩),.pointer (some ⟨w.heap.size,0,none⟩),.int .u64 150] 106)).alloc (.cells #[(.pointer (some e))] 58))
  (by rw[World.cell?_alloc_at _ _ _ _ (by simp)];rfl)
  (by rw[World.cell?_alloc_lt _ _ t (by simp;omega),World.cell?_alloc_lt _ _ t (by simp;omega),World.cell?_alloc_lt _ _ t (by simp;omega),World.cell?_alloc_lt _ _ t htl];exact ht0)
  (by rw[World.frozen?_alloc_old _ _ t (by simp;omega),World.frozen?_alloc_old _ _ t (by simp;omega),World.frozen?_alloc_old _ _ t (by simp;omega),World.frozen?_alloc_old _ _ t (Nat.ne_of_lt htl)];exact hf0)
 go_enter Tryz.func18,Tryz.ntmps18
 go_wp2
 refine wp_loop_rounds 1 ?_
 rw[rounds_succ]
 go_wp2
 go_ret
 exact⟨rfl,rfl⟩
theorem as_hitN (e:Int) (t:Addr) (old:Value) (w:World) (hg:w.cell? ⟨0,0,none⟩=some (.iface 139 (.agg #[.pointer (some ⟨11,31,none⟩)]))) (ht0:w.cell? t=some old) (hf0:w.frozen? t=false) :
  Calls Tryz.prog 18 #[.iface 50 (Zi e),.iface 63 (.pointer (some t))] w fun ev w'=>ev=.returned (.bool true)∧w'=(((((w.alloc (.cells #[.pointer (some t)] 63)).alloc (.cells #[.pointer (some ⟨11,63,none⟩),.pointer (some ⟨w.heap.size,0,none⟩),.int .u64 150] 106)).alloc (.cells #[.pointer (some ⟨11,63,none⟩),.pointer (some ⟨w.heap.size,0,none⟩),.int .u64 150] 106)).alloc (.cells #[(Zi e)] 50)).setCell t (Zi e)):=by
 have h1:=@run_callFunc_extern Tryz.prog 48 _ (fun args=>ReflectliteValue.unpack (args.getD 0 (.tuple #[]))) Tryz.func48 (by kernel_rfl) (by kernel_rfl) (by kernel_rfl) (by kernel_rfl)
 have h2 := @run_callFunc_extern Tryz.prog 49 _ (ReflectliteValue.methodAny (ReflectliteValue.valueError "reflectlite.Value.Type" 0) (fun t _ _ _ => ReflectliteType.toType t)) Tryz.func49 (by kernel_rfl) (by kernel_rfl) (by kernel_rfl) (by kernel_rfl)
 have h3 := @run_callFunc_extern Tryz.prog 50 _ (ReflectliteValue.method (ReflectliteValue.valueError "reflectlite.Value.IsNil" 0) ReflectliteValue.isNil) Tryz.func50 (by kernel_rfl) (by kernel_rfl) (by kernel_rfl) (by kernel_rfl)
 have h4:=@run_callFunc_extern Tryz.prog 197 _ (ReflectliteType.abiMethod fun t=>do pure (.int .u8 (← Rtype.kind t))) Tryz.func197 (by kernel_rfl) (by kernel_rfl) (by kernel_rfl) (by kernel_rfl)
 have h5:=@run_callFunc_extern Tryz.prog 209 _ (ReflectliteType.method ReflectliteType.elem) Tryz.func209 (by kernel_rfl) (by kernel_rfl) (by kernel_rfl) (by kernel_rfl)
 have h6 := @run_callFunc_extern Tryz.prog 210 _ (ReflectliteType.relation "Implements" ReflectliteType.implements_) Tryz.func210 (by kernel_rfl) (by kernel_rfl) (by kernel_rfl) (by kernel_rfl)
 have h7:=@run_callFunc_extern Tryz.prog 87 _ ReflectliteType.typeOf Tryz.func87 (by kernel_rfl) (by kernel_rfl) (by kernel_rfl) (by kernel_rfl)
 have h8 := @run_callFunc_extern Tryz.prog 207 _ (ReflectliteType.relation "AssignableTo" ReflectliteType.assignableTo) Tryz.func207 (by kernel_rfl) (by kernel_rfl) (by kernel_rfl) (by kernel_rfl)
 have h9 := @run_callFunc_extern Tryz.prog 88 _ (ReflectliteValue.method (ReflectliteValue.valueError "reflectlite.Value.Elem" 0) ReflectliteValue.elem) Tryz.func88 (by kernel_rfl) (by kernel_rfl) (by kernel_rfl) (by kernel_rfl)
 have h10:=@run_callFunc_extern Tryz.prog 89 _ ReflectliteValue.set Tryz.func89 (by kernel_rfl) (by kernel_rfl) (by kernel_rfl) (by kernel_rfl)
 have f1:=valTN
 have f2:=typTN
 have f3:=m_kind
 have f4:=m_elem
 have f5:=m_impl
 have f6:=m_asgn
 have f7:=kindTN
 have f8:=kindEN
 have f9:=elemTN
 have f10:=typeEN
 have f11:=asgnN
 have f12:=implN
 have f13:=valEN
 have n8:=isNilN ⟨w.heap.size,0,none⟩ t ((w.alloc (.cells #[.pointer (some t)] 63)).alloc (.cells #[.pointer (some ⟨11,63,none⟩),.pointer (some ⟨w.heap.size,0,none⟩),.int .u64 150] 106)) (by simp)
 have hlt:0 < w.heap.size:=cell_lt' hg
 have hg2:((w.alloc (.cells #[.pointer (some t)] 63)).alloc (.cells #[.pointer (some ⟨11,63,none⟩),.pointer (some ⟨w.heap.size,0,none⟩),.int .u64 150] 106)).cell? ⟨0,0,none⟩=some (.iface 139 (.agg #[.pointer (some ⟨11,31,none⟩)])):=by
  rw[World.cell?_alloc_lt _ _ ⟨0,0,none⟩ (by simp <;> omega),World.cell?_alloc_lt _ _ ⟨0,0,none⟩ hlt];exact hg
 have htl:t.block < w.heap.size:=cell_lt' ht0
 have el:=elVN ⟨w.heap.size,0,none⟩ t (((w.alloc (.cells #[.pointer (some t)] 63)).alloc (.cells #[.pointer (some ⟨11,63,none⟩),.pointer (some ⟨w.heap.size,0,none⟩),.int .u64 150] 106)).alloc (.cells #[.pointer (some ⟨11,63,none⟩),.pointer (some ⟨w.heap.size,0,none⟩),.int .u64 150] 106)) (by rw[World.cell?_alloc_lt _ _ ⟨w.heap.size,0,none⟩ (by simp;omega),World.cell?_alloc_lt _ _ ⟨w.heap.size,0,none⟩ (by simp)];simp)
 have st:=setN t ⟨w.heap.size+1+1+1,0,none⟩ e old ((((w.alloc (.cells #[.pointer (some t)] 63)).alloc (.cells #[.pointer (some ⟨11,63,none⟩),.pointer (some ⟨w.heap.size,0,none⟩),.int .u64 150] 106)).alloc (.cells #[.pointer (some ⟨11,63,none⟩),.pointer (some ⟨w.heap.size,0,none⟩),.int .u64 150] 106)).alloc (.cells #[(Zi e)] 50))
  (by rw[World.cell?_alloc_at _ _ _ _ (by simp)];rfl)
  (by rw[World.cell?_alloc_lt _ _ t (by simp;omega),World.cell?_alloc_lt _ _ t (by simp;omega),World.cell?_alloc_lt _ _ t (by simp;omega),World.cell?_alloc_lt _ _ t htl];exact ht0)
  (by rw[World.frozen?_alloc_old _ _ t (by simp;omega),World.frozen?_alloc_old _ _ t (by simp;omega),World.frozen?_alloc_old _ _ t (by simp;omega),World.frozen?_alloc_old _ _ t (Nat.ne_of_lt htl)];exact hf0)
 go_enter Tryz.func18,Tryz.ntmps18
 go_wp2
 refine wp_loop_rounds 1 ?_
 rw[rounds_succ]
 go_wp2
 go_ret
 exact⟨rfl,rfl⟩
end Go.Proofs.YtlfooogmoigpfaaGreatDoor
namespace Go.Proofs.YtlfooogmoigpfaaGreatDoor
open Go.RowKit Go.Sort Go.Extern
theorem bel_drewN (w:World) (n:Nat):Go.RowKit.Below w.heap.size w (w.drewN n):=((Grew.refl w).drewN n).below
def ErrVar (W:World):Prop:=W.cell? ⟨0,0,none⟩=some (.iface 139 (.agg #[.pointer (some ⟨11,31,none⟩)]))
theorem below_setC {C:Nat} {W:World} (a:Addr) (v:Value) (hC:C≤a.block):Go.RowKit.Below C W (W.setCell a v):=⟨rfl,rfl,rfl,by simp,fun k hk=>heap_setCell_other W a k v (by omega)⟩
def FB (W:World) (b:Nat) (x y z:Value):Prop:=W.heap[b]? = some (.cells #[x,y,z] 27 (0,0))
theorem load_fault {W:World} {b:Nat} {x y z:Value} (h:FB W b x y z):(loadVar 27 ⟨b,0,none⟩).run Tryz.prog W=.ok (.agg #[x,y,z]) W:=by
 have q0:W.cell? ⟨b,0,none⟩=some x:=by simp[World.cell?,show W.heap[b]? = _ from h]
 have q1:W.cell? ⟨b,1,none⟩=some y:=by simp[World.cell?,show W.heap[b]? = _ from h]
 have q2:W.cell? ⟨b,2,none⟩=some z:=by simp[World.cell?,show W.heap[b]? = _ from h]
 simp[go_sem,q0,q1,q2]
theorem faultNil_any (w:World):Calls Tryz.prog 6 #[.nilIface] w fun e w'=>e=.returned (.agg #[Zi 0,Zi 0,Zi 0])∧Go.RowKit.Below w.heap.size w w':=by
 have hF:FB (w.alloc (.cells #[Zi 0,Zi 0,Zi 0] 27)) w.heap.size (Zi 0) (Zi 0) (Zi 0):=heap_alloc_new _ _ rfl
 have hld:=load_fault hF
 have HB:=Zh (bel_al w (.cells #[Zi 0,Zi 0,Zi 0] 27))
 clear hF
 go_enter Tryz.func6,Tryz.ntmps6
 go_wp2
 refine bodyPost_ret (v:=.agg #[Zi 0,Zi 0,Zi 0]) ?_ rfl ?_
 ·simp[results,Tryz.results6,asAddr,hld]
 ·exact⟨rfl,HB.out⟩
theorem hit_facts (W:World) (o1 o2 o3 o4:Obj) (t:Nat) (T:TypeId) (u v:Value) (h:W.heap[t]? = some (.cells #[u] T (0,0))):(∀k,k < W.heap.size→k≠t→(((((W.alloc o1).alloc o2).alloc o3).alloc o4).setCell ⟨t,0,none⟩ v).heap[k]? = W.heap[k]?)∧(((((W.alloc o1).alloc o2).alloc o3).alloc o4).setCell ⟨t,0,none⟩ v).heap[t]? = some (.cells #[v] T (0,0))∧(∀C,C≤t→Go.RowKit.Below C W (((((W.alloc o1).alloc o2).alloc o3).alloc o4).setCell ⟨t,0,none⟩ v)):=by
 have ht:=(Array.getElem?_eq_some_iff.1 h).1
 have old:∀k,k < W.heap.size→((((W.alloc o1).alloc o2).alloc o3).alloc o4).heap[k]? = W.heap[k]?:=fun k hk=>(heap_alloc_old _ _ (by simp only[World.size_alloc];omega)).trans ((heap_alloc_old _ _ (by simp only[World.size_alloc];omega)).trans ((heap_alloc_old _ _ (by simp only[World.size_alloc];omega)).trans (heap_alloc_old _ _ hk)))
 refine⟨fun k hk hne=>(heap_setCell_other _ _ _ _ hne).trans (old k hk),heap_setCell_same _ t 0 _ _ _ ((old t ht).trans h),fun C hC=>?_⟩
 exact (((((Below.refl C W).alloc (by omega) _).alloc (by simp only[World.size_alloc];omega) _).alloc (by simp only[World.size_alloc];omega) _).alloc (by simp only[World.size_alloc];omega) _).trans (below_setC _ _ hC)
theorem ErrVar.bel {W W':World} (h:ErrVar W) {C:Nat} (hb:Go.RowKit.Below C W W') (hC:11≤C):ErrVar W':=by
 have h2:=hb.block 0 (by omega)
 unfold ErrVar at h ⊢
 simp only[World.cell?] at h ⊢
 rw[h2]
 exact h
theorem fault_any (w:World) (v:Value) (line col:Nat) (n:Int) (h:ErrAt w v line col n) (he:ErrVar w) (hB:11≤w.heap.size):Calls Tryz.prog 6 #[v] w fun e w'=>e=.returned (.agg #[Zi (line:Int),Zi (col:Int),Zi n])∧Go.RowKit.Below w.heap.size w w':=by
 obtain⟨b,rfl,hb⟩:=h
 have hbl:=(Array.getElem?_eq_some_iff.1 hb).1
 obtain⟨f,hf⟩:=nm (w.heap.size)
 obtain⟨W3,hW3⟩:=nm (((w.alloc (.cells #[Zi 0,Zi 0,Zi 0] 27)).alloc (.cells #[.pointer none] 58)).alloc (.cells #[Zi 0] 50))
 have hB3:Go.RowKit.Below f w W3:=by rw[hW3,hf];exact (((Below.refl _ w).alloc (Nat.le_refl _) _).alloc (by simp only[World.size_alloc];omega) _).alloc (by simp only[World.size_alloc];omega) _
 have hs3:W3.heap.size=f+3:=by rw[hW3,hf];simp only[World.size_alloc]
 have hf3:FB W3 f (Zi 0) (Zi 0) (Zi 0):=by rw[hW3,hf];exact (heap_alloc_old _ _ (by simp only[World.size_alloc];omega)).trans ((heap_alloc_old _ _ (by simp only[World.size_alloc];omega)).trans (heap_alloc_new _ _ rfl))
 have hp3:W3.heap[f+1]? = some (.cells #[.pointer none] 58 (0,0)):=by rw[hW3,hf];exact (heap_alloc_old _ _ (by simp only[World.size_alloc];omega)).trans (heap_alloc_new _ _ (by simp only[World.size_alloc]))
 have hn3:W3.heap[f+2]? = some (.cells #[Zi 0] 50 (0,0)):=by rw[hW3,hf];exact heap_alloc_new _ _ (by simp only[World.size_alloc])
 have hb3:=(hB3.block b (by omega)).trans hb
 have hE3:=he.bel hB3 (by omega)
 have HA1:=Zh (as_hitP ⟨b,0,none⟩ ⟨f+1,0,none⟩ (.pointer none) W3 hE3 (by unfold World.cell?;rw[hp3];rfl) (frozen_of_row _ _ 0 _ _ hp3))
 have HF3:=Zh (And.intro hB3 (And.intro hs3 (And.intro hf3 (And.intro hp3 (And.intro hn3 (And.intro hb3 hE3))))))
 have HB':Hid (11≤f∧b < f):=⟨by omega,by omega⟩
 clear he hb hB3 hs3 hf3 hp3 hn3 hb3 hE3
 go_enter Tryz.func6,Tryz.ntmps6
 go_upto_region 5 with fail
 rw[← hW3]
 clear hW3
 rw[← hf]
 rw[show f+1+1=f+2 from rfl]
 have HFq:=Zh hf
 clear hbl hB hf
 go_wp2_with fail
 refine HA1.out.mono ?_
 rintro e w4 ⟨rfl,hw4⟩
 obtain⟨hB3,hs3,hf3,hp3,hn3,hb3,hE3⟩:=HF3.out
 obtain⟨k1,k2,k3⟩:=hit_facts W3 (.cells #[.pointer (some ⟨f+1,0,none⟩)] 60) (.cells #[.pointer (some ⟨11,60,none⟩),.pointer (some ⟨W3.heap.size,0,none⟩),.int .u64 150] 106) (.cells #[.pointer (some ⟨11,60,none⟩),.pointer (some ⟨W3.heap.size,0,none⟩),.int .u64 150] 106) (.cells #[Zp b] 58) (f+1) _ _ (Zp b) hp3
 rw[← hw4] at k1 k2 k3
 have hbf:=HB'.out
 have hB4:=hB3.trans (k3 f (by omega))
 have hs4:f+3≤w4.heap.size:=by have:=(k3 f (by omega)).size;omega
 have hf4:FB w4 f (Zi 0) (Zi 0) (Zi 0):=(k1 f (by omega) (by omega)).trans hf3
 have hn4:=(k1 (f+2) (by omega) (by omega)).trans hn3
 have hb4:=(k1 b (by omega) (by omega)).trans hb3
 have hE4:=hE3.bel (k3 f (by omega)) hbf.1
 have HA2:=Zh (as_hitN n ⟨f+2,0,none⟩ (Zi 0) w4 hE4 (by unfold World.cell?;rw[hn4];rfl) (frozen_of_row _ _ 0 _ _ hn4))
 have y0:w4.cell? ⟨f+1,0,none⟩=some (Zp b):=by unfold World.cell?;rw[k2];rfl
 have y1:w4.cell? ⟨b,2,none⟩=some (.iface 50 (Zi n)):=by unfold World.cell?;rw[hb4];rfl
 have HF4:=Zh (And.intro hB4 (And.intro hs4 (And.intro hf4 (And.intro k2 (And.intro hn4 hb4)))))
 clear hB3 hs3 hf3 hp3 hn3 hb3 hE3 k1 k2 k3 hw4 hbf hB4 hs4 hf4 hn4 hb4 hE4 HA1 HF3
 go_wp2_with fail
 refine HA2.out.mono ?_
 rintro e w5 ⟨rfl,hw5⟩
 obtain⟨hB4,hs4,hf4,hp4,hn4,hb4⟩:=HF4.out
 obtain⟨k1,k2,k3⟩:=hit_facts w4 (.cells #[.pointer (some ⟨f+2,0,none⟩)] 63) (.cells #[.pointer (some ⟨11,63,none⟩),.pointer (some ⟨w4.heap.size,0,none⟩),.int .u64 150] 106) (.cells #[.pointer (some ⟨11,63,none⟩),.pointer (some ⟨w4.heap.size,0,none⟩),.int .u64 150] 106) (.cells #[Zi n] 50) (f+2) _ _ (Zi n) hn4
 rw[← hw5] at k1 k2 k3
 have hbf:=HB'.out
 have hf5:FB w5 f (Zi 0) (Zi 0) (Zi 0):=(k1 f (by omega) (by omega)).trans hf4
 have hp5:=(k1 (f+1) (by omega) (by omega)).trans hp4
 have hb5:=(k1 b (by omega) (by omega)).trans hb4
 have hB5:=hB4.trans (k3 f (by omega))
 have HS5:Hid (∀W':World,(∀k,k < w5.heap.size→k≠f→W'.heap[k]? = w5.heap[k]?)→W'.cell? ⟨f+1,0,none⟩=some (Zp b)∧W'.cell? ⟨b,0,none⟩=some (Zi (line:Int))∧W'.cell? ⟨b,1,none⟩=some (Zi (col:Int))∧W'.cell? ⟨f+2,0,none⟩=some (Zi n)):=fun W' hk=>by
  have q1:=(hk (f+1) (Array.getElem?_eq_some_iff.1 hp5).1 (by omega)).trans hp5
  have q2:=(hk b (Array.getElem?_eq_some_iff.1 hb5).1 (by omega)).trans hb5
  have q3:=(hk (f+2) (Array.getElem?_eq_some_iff.1 k2).1 (by omega)).trans k2
  refine⟨?_,?_,?_,?_⟩ <;> simp[World.cell?,q1,q2,q3]
 have hS6:=HS5.out (((w5.drew.setCell ⟨f,0,none⟩ (Zi (line:Int))).setCell ⟨f,1,none⟩ (Zi (col:Int))).setCell ⟨f,2,none⟩ (Zi n)) (fun k _ hne=>(heap_setCell_other _ _ _ _ hne).trans ((heap_setCell_other _ _ _ _ hne).trans (heap_setCell_other _ _ _ _ hne)))
 have hbd:∀k,k < w5.heap.size→k≠f→w5.drew.heap[k]? = w5.heap[k]?:=fun _ _ _=>rfl
 have hf7:FB ((((w5.setCell ⟨f,0,none⟩ (Zi (line:Int))).setCell ⟨f,1,none⟩ (Zi (col:Int))).setCell ⟨f,2,none⟩ (Zi n)).drew) f (Zi (line:Int)) (Zi (col:Int)) (Zi n):=heap_setCell_same _ f 2 _ _ _ (heap_setCell_same _ f 1 _ _ _ (heap_setCell_same w5 f 0 _ _ _ hf5))
 have hld:=load_fault hf7
 have hs5:f≤w5.heap.size:=by have:=(k3 f (by omega)).size;omega
 have HB6:Hid (Go.RowKit.Below w.heap.size w (((w5.drew.setCell ⟨f,0,none⟩ (Zi (line:Int))).setCell ⟨f,1,none⟩ (Zi (col:Int))).setCell ⟨f,2,none⟩ (Zi n))):=by
  show Go.RowKit.Below _ _ _
  rw[← HFq.out]
  exact (((hB5.trans ((bel_drewN w5 1).mono hs5)).trans (below_setC _ _ (Nat.le_refl _))).trans (below_setC _ _ (Nat.le_refl _))).trans (below_setC _ _ (Nat.le_refl _))
 have g0:=frozen_of_row w5 f 0 _ _ hf5
 have g1:=frozen_of_row w5 f 1 _ _ hf5
 have g2:=frozen_of_row w5 f 2 _ _ hf5
 have c0:w5.cell? ⟨f,0,none⟩=some (Zi 0):=by unfold World.cell?;rw[show w5.heap[f]? = _ from hf5];rfl
 have c1:w5.cell? ⟨f,1,none⟩=some (Zi 0):=by unfold World.cell?;rw[show w5.heap[f]? = _ from hf5];rfl
 have c2:w5.cell? ⟨f,2,none⟩=some (Zi 0):=by unfold World.cell?;rw[show w5.heap[f]? = _ from hf5];rfl
 clear hB4 hs4 hf4 hp4 hn4 hb4 k1 k2 k3 hw5 hbf hf5 hp5 hb5 hB5 hf7 hs5 y0 y1 HA2 HF4
 go_upto_region 6 with fail
 refine wp_region_held_drew (S:=fun w'=>w'.cell? ⟨f+1,0,none⟩=some (Zp b)∧w'.cell? ⟨b,0,none⟩=some (Zi (line:Int))∧w'.cell? ⟨b,1,none⟩=some (Zi (col:Int))∧w'.cell? ⟨f+2,0,none⟩=some (Zi n)) (by kernel_rfl) ?_ (fun hHeld=>?_)
 ·exact HS5.out _ hbd
 refine wpAnyH_take (i:=0) (v:=Zp b) rfl (by kernel_rfl) (by kernel_rfl) (by kernel_rfl) (fun _ _ _ h=>h) (Or.inl ⟨by rfl,by intro w hSw;(try dsimp only at hSw);go_simp⟩) (by assumption) ?_
 refine wpAnyH_take (i:=1) (v:=Zp b) rfl (by kernel_rfl) (by kernel_rfl) (by kernel_rfl) (fun _ _ _ h=>h) (Or.inl ⟨by rfl,by intro w hSw;(try dsimp only at hSw);go_simp⟩) (by assumption) ?_
 refine wpAnyH_take (i:=2) (v:=Zp b) rfl (by kernel_rfl) (by kernel_rfl) (by kernel_rfl) (fun _ _ _ h=>h) (Or.inl ⟨by rfl,by intro w hSw;(try dsimp only at hSw);go_simp⟩) (by assumption) ?_
 refine wpAnyH_take (i:=3) (v:=Zi (line:Int)) rfl (by kernel_rfl) (by kernel_rfl) (by kernel_rfl) (fun _ _ _ h=>h) (Or.inl ⟨by rfl,by intro w hSw;(try dsimp only at hSw);go_simp⟩) (by assumption) ?_
 refine wpAnyH_take (i:=4) (v:=Zp b) rfl (by kernel_rfl) (by kernel_rfl) (by kernel_rfl) (fun _ _ _ h=>h) (Or.inl ⟨by rfl,by intro w hSw;(try dsimp only at hSw);go_simp⟩) (by assumption) ?_
 refine wpAnyH_take (i:=5) (v:=Zp b) rfl (by kernel_rfl) (by kernel_rfl) (by kernel_rfl) (fun _ _ _ h=>h) (Or.inl ⟨by rfl,by intro w hSw;(try dsimp only at hSw);go_simp⟩) (by assumption) ?_
 refine wpAnyH_take (i:=6) (v:=.pointer (some ⟨b,1,none⟩)) rfl (by kernel_rfl) (by kernel_rfl) (by kernel_rfl) (fun _ _ _ h=>h) (Or.inl ⟨by rfl,by intro w hSw;(try dsimp only at hSw);go_simp⟩) (by assumption) ?_
 refine wpAnyH_take (i:=7) (v:=Zi (col:Int)) rfl (by kernel_rfl) (by kernel_rfl) (by kernel_rfl) (fun _ _ _ h=>h) (Or.inl ⟨by rfl,by intro w hSw;(try dsimp only at hSw);go_simp⟩) (by assumption) ?_
 refine wpAnyH_take (i:=8) (v:=Zi n) rfl (by kernel_rfl) (by kernel_rfl) (by kernel_rfl) (fun _ _ _ h=>h) (Or.inl ⟨by rfl,by intro w hSw;(try dsimp only at hSw);go_simp⟩) (by assumption) ?_
 refine wpAnyH_take (i:=9) (v:=.agg #[Zi (line:Int),Zi (col:Int),Zi n]) rfl (by kernel_rfl) (by kernel_rfl) (by kernel_rfl) (fun _ _ _ h=>h) (Or.inl ⟨by rfl,by intro w hSw;(try dsimp only at hSw);go_simp⟩) (by assumption) ?_
 refine wpAnyH_ready (rs:=[10]) (by kernel_rfl) (by simp) ?_
 refine AllReadyH.cons rfl (fun K hK=>?_) ?_
 ·go_simp
  refine hK.out _ _ (by exact hS6) (fun hHeld=>?_)
  clear hK K
  refine wpAnyH_done (by kernel_rfl) ?_ _
  go_wp2_with fail
  refine bodyPost_ret (v:=.agg #[Zi (line:Int),Zi (col:Int),Zi n]) ?_ rfl ?_
  ·simp[results,Tryz.results6,asAddr,hld]
  ·exact⟨rfl,HB6.out⟩
 exact AllReadyH.nil
theorem asgnM (w : World) : (ReflectliteType.relation "AssignableTo" ReflectliteType.assignableTo #[.agg #[.pointer (some ⟨11, 50, none⟩)], .iface 139 (.agg #[.pointer (some ⟨11, 58, none⟩)])]).run Tryz.prog w = .ok (.bool false) w := by kernel_rfl
theorem lackM0 (v:Value) (xT:TypeId) (w:World):(Instr.typeAssert (.iface 50 v) xT 144 true).run Tryz.prog w=.ok (.tuple #[.nilIface,.bool false]) w:=run_typeAssert_lacksB Tryz.underlying144 (by kernel_rfl) (by kernel_rfl) v xT w
theorem lackM1 (v:Value) (xT:TypeId) (w:World):(Instr.typeAssert (.iface 50 v) xT 147 true).run Tryz.prog w=.ok (.tuple #[.nilIface,.bool false]) w:=run_typeAssert_lacksB Tryz.underlying147 (by kernel_rfl) (by kernel_rfl) v xT w
theorem lackM2 (v:Value) (xT:TypeId) (w:World):(Instr.typeAssert (.iface 50 v) xT 149 true).run Tryz.prog w=.ok (.tuple #[.nilIface,.bool false]) w:=run_typeAssert_lacksB Tryz.underlying149 (by kernel_rfl) (by kernel_rfl) v xT w
theorem as_missN (e:Int) (t:Addr) (w:World) (hg:w.cell? ⟨0,0,none⟩=some (.iface 139 (.agg #[.pointer (some ⟨11,31,none⟩)]))) :
  Calls Tryz.prog 18 #[.iface 50 (Zi e),.iface 60 (.pointer (some t))] w fun ev w'=>ev=.returned (.bool false)∧Go.RowKit.Below w.heap.size w w':=by
 have h1:=@run_callFunc_extern Tryz.prog 48 _ (fun args=>ReflectliteValue.unpack (args.getD 0 (.tuple #[]))) Tryz.func48 (by kernel_rfl) (by kernel_rfl) (by kernel_rfl) (by kernel_rfl)
 have h2 := @run_callFunc_extern Tryz.prog 49 _ (ReflectliteValue.methodAny (ReflectliteValue.valueError "reflectlite.Value.Type" 0) (fun t _ _ _ => ReflectliteType.toType t)) Tryz.func49 (by kernel_rfl) (by kernel_rfl) (by kernel_rfl) (by kernel_rfl)
 have h3 := @run_callFunc_extern Tryz.prog 50 _ (ReflectliteValue.method (ReflectliteValue.valueError "reflectlite.Value.IsNil" 0) ReflectliteValue.isNil) Tryz.func50 (by kernel_rfl) (by kernel_rfl) (by kernel_rfl) (by kernel_rfl)
 have h4:=@run_callFunc_extern Tryz.prog 197 _ (ReflectliteType.abiMethod fun t=>do pure (.int .u8 (← Rtype.kind t))) Tryz.func197 (by kernel_rfl) (by kernel_rfl) (by kernel_rfl) (by kernel_rfl)
 have h5:=@run_callFunc_extern Tryz.prog 209 _ (ReflectliteType.method ReflectliteType.elem) Tryz.func209 (by kernel_rfl) (by kernel_rfl) (by kernel_rfl) (by kernel_rfl)
 have h6 := @run_callFunc_extern Tryz.prog 210 _ (ReflectliteType.relation "Implements" ReflectliteType.implements_) Tryz.func210 (by kernel_rfl) (by kernel_rfl) (by kernel_rfl) (by kernel_rfl)
 have h7:=@run_callFunc_extern Tryz.prog 87 _ ReflectliteType.typeOf Tryz.func87 (by kernel_rfl) (by kernel_rfl) (by kernel_rfl) (by kernel_rfl)
 have h8 := @run_callFunc_extern Tryz.prog 207 _ (ReflectliteType.relation "AssignableTo" ReflectliteType.assignableTo) Tryz.func207 (by kernel_rfl) (by kernel_rfl) (by kernel_rfl) (by kernel_rfl)
 have f1:=valTP
 have f2:=typTP
 have f3:=m_kind
 have f4:=m_elem
 have f5:=m_impl
 have f6:=m_asgn
 have f7:=kindTP
 have f8:=kindEP
 have f9:=elemTP
 have f10:=typeEN
 have f11:=asgnM
 have f12:=implP
 have n8:=isNilP ⟨w.heap.size,0,none⟩ t ((w.alloc (.cells #[.pointer (some t)] 60)).alloc (.cells #[.pointer (some ⟨11,60,none⟩),.pointer (some ⟨w.heap.size,0,none⟩),.int .u64 150] 106)) (by simp)
 have hlt:0 < w.heap.size:=cell_lt' hg
 have hg2:((w.alloc (.cells #[.pointer (some t)] 60)).alloc (.cells #[.pointer (some ⟨11,60,none⟩),.pointer (some ⟨w.heap.size,0,none⟩),.int .u64 150] 106)).cell? ⟨0,0,none⟩=some (.iface 139 (.agg #[.pointer (some ⟨11,31,none⟩)])):=by
  rw[World.cell?_alloc_lt _ _ ⟨0,0,none⟩ (by simp <;> omega),World.cell?_alloc_lt _ _ ⟨0,0,none⟩ hlt];exact hg
 have l0:=lackM0
 have l1:=lackM1
 have l2:=lackM2
 have HB:Hid (Go.RowKit.Below w.heap.size w (((w.alloc (.cells #[.pointer (some t)] 60)).alloc (.cells #[.pointer (some ⟨11,60,none⟩),.pointer (some ⟨w.heap.size,0,none⟩),.int .u64 150] 106)).alloc (.cells #[.pointer (some ⟨11,60,none⟩),.pointer (some ⟨w.heap.size,0,none⟩),.int .u64 150] 106))):=((bel_al _ _).trans ((bel_al _ _).mono (by simp))).trans ((bel_al _ _).mono (by simp;omega))
 go_enter Tryz.func18,Tryz.ntmps18
 go_wp2
 refine wp_loop_rounds 1 ?_
 rw[rounds_succ]
 go_wp2
 go_ret
 exact⟨rfl,HB.out⟩
theorem eqlM (w:World):(binOp .eql 31 (.iface 50 (Zi 44)) (.iface 50 (Zi 44))).run Tryz.prog w=.ok (.bool true) w:=by kernel_rfl
theorem faultLong_any (w:World) (he:ErrVar w) (hB:11≤w.heap.size):Calls Tryz.prog 6 #[.iface 50 (Zi 44)] w fun e w'=>e=.returned (.agg #[Zi 0,Zi 0,Zi 44])∧Go.RowKit.Below w.heap.size w w':=by
 obtain⟨f,hf⟩:=nm (w.heap.size)
 obtain⟨W3,hW3⟩:=nm (((w.alloc (.cells #[Zi 0,Zi 0,Zi 0] 27)).alloc (.cells #[.pointer none] 58)).alloc (.cells #[Zi 0] 50))
 have hB3:Go.RowKit.Below f w W3:=by rw[hW3,hf];exact (((Below.refl _ w).alloc (Nat.le_refl _) _).alloc (by simp only[World.size_alloc];omega) _).alloc (by simp only[World.size_alloc];omega) _
 have hf3:FB W3 f (Zi 0) (Zi 0) (Zi 0):=by rw[hW3,hf];exact (heap_alloc_old _ _ (by simp only[World.size_alloc];omega)).trans ((heap_alloc_old _ _ (by simp only[World.size_alloc];omega)).trans (heap_alloc_new _ _ rfl))
 have hE3:=he.bel hB3 (by omega)
 have HA1:=Zh (as_missN 44 ⟨f+1,0,none⟩ W3 hE3)
 have HF3:=Zh (And.intro hB3 hf3)
 have eq:=eqlM
 clear he hB3 hf3 hE3
 go_enter Tryz.func6,Tryz.ntmps6
 go_upto_region 5 with fail
 rw[← hW3]
 clear hW3
 rw[← hf]
 have HFq:=Zh hf
 clear hB hf
 go_wp2_with fail
 refine HA1.out.mono ?_
 rintro e w4 ⟨rfl,hb4⟩
 have hF4:FB w4 f (Zi 0) (Zi 0) (Zi 0):=(hb4.block f (Array.getElem?_eq_some_iff.1 HF3.out.2).1).trans HF3.out.2
 have hc0:w4.cell? ⟨f,0,none⟩=some (Zi 0):=by unfold World.cell?;rw[show w4.heap[f]? = _ from hF4];rfl
 have hc1:w4.cell? ⟨f,1,none⟩=some (Zi 0):=by unfold World.cell?;rw[show w4.heap[f]? = _ from hF4];rfl
 have hc2:w4.cell? ⟨f,2,none⟩=some (Zi 0):=by unfold World.cell?;rw[show w4.heap[f]? = _ from hF4];rfl
 have g0:=frozen_of_row w4 f 0 _ _ hF4
 have g1:=frozen_of_row w4 f 1 _ _ hF4
 have g2:=frozen_of_row w4 f 2 _ _ hF4
 have hF5:FB (((w4.setCell ⟨f,0,none⟩ (Zi 0)).setCell ⟨f,1,none⟩ (Zi 0)).setCell ⟨f,2,none⟩ (Zi 44)) f (Zi 0) (Zi 0) (Zi 44):=heap_setCell_same _ f 2 _ _ _ (heap_setCell_same _ f 1 _ _ _ (heap_setCell_same w4 f 0 _ _ _ hF4))
 have hld:=load_fault hF5
 have HX:Hid (Go.RowKit.Below w.heap.size w (((w4.setCell ⟨f,0,none⟩ (Zi 0)).setCell ⟨f,1,none⟩ (Zi 0)).setCell ⟨f,2,none⟩ (Zi 44))):=by
  have h3:=HF3.out.1
  have h4:Go.RowKit.Below f w w4:=h3.trans (hb4.mono (by have:=h3.size;have:=HFq.out;omega))
  rw[Hid,← HFq.out]
  exact ((h4.trans (below_setC _ _ (Nat.le_refl _))).trans (below_setC _ _ (Nat.le_refl _))).trans (below_setC _ _ (Nat.le_refl _))
 clear hb4 hF4 hF5 HA1 HF3
 go_wp2_with fail
 refine bodyPost_ret (v:=.agg #[Zi 0,Zi 0,Zi 44]) ?_ rfl ?_
 ·simp[results,Tryz.results6,asAddr,hld]
 ·exact⟨rfl,HX.out⟩
end Go.Proofs.YtlfooogmoigpfaaGreatDoor
namespace Go.Proofs.YtlfooogmoigpfaaGreatDoor
open Go.RowKit Go.Sort
abbrev ftT (x y z:Int):Value:=.agg #[Zi x,Zi y,Zi z]
theorem rtokLong_any (w:World) (L:List UInt8) (h:65536 < L.length):Calls Tryz.prog 9 #[.string (S L)] w fun e w'=>e=.returned (.tuple #[Zn,ftT 0 0 44])∧Below w.heap.size w w':=by
 have hs:(65536:Int) < ((S L).size:Int):=by rw[S_size];omega
 have HB:Hid (∀o,Below w.heap.size w (w.alloc o)):=fun o=>bel_al w o
 go_enter Tryz.func9,Tryz.ntmps9
 go_wp2_with fail
 exact bodyPost_ret (v:=.tuple #[Zn,ftT 0 0 44]) (by simp[results,Tryz.results9,go_sem]) rfl ⟨rfl,HB.out _⟩
theorem tokLong_any (w:World) (L:List UInt8) (h:65536 < L.length):Calls Tryz.prog 12 #[.string (S L)] w fun e w'=>e=.returned (.tuple #[Zn,.iface 50 (Zi 44)])∧w'=w:=by
 have hs:(65536:Int) < ((S L).size:Int):=by rw[S_size];omega
 go_enter Tryz.func12,Tryz.ntmps12
 go_wp2_with fail
 go_ret2
 exact⟨rfl,rfl⟩
def FltT (W:World) (v:Value) (x y z:Int):Prop:=∀W',Below W.heap.size W W'→Calls Tryz.prog 6 #[v] W' fun e w'=>e=.returned (ftT x y z)∧Below W'.heap.size W' w'
section
variable {w U U':World} {A0:Nat} {va vb vq:Value} {m b0 q0:Nat} {ts:List Tok}
end
end Go.Proofs.YtlfooogmoigpfaaGreatDoor
namespace Go.Proofs.YtlfooogmoigpfaaGreatDoor
open Go.RowKit Go.Sort Go.Shelf
theorem parseLong_any (w:World) (L:List UInt8) (hL:65536 < L.length) :
  Calls Tryz.prog 5 #[.string (S L)] w fun e w'=>e=.returned (.tuple #[.agg #[Zn,Zn],.iface 50 (Zi 44)])∧Below w.heap.size w w':=by
 have hd0:=D2.new w
 obtain⟨W0,hW0⟩:=nm ((w.alloc (.cells #[Zn,Zn] 25)).alloc (.cells #[.nilIface] 31))
 rw[← hW0] at hd0
 have HTk:=Zh (tokLong_any W0 L hL)
 have HD0:=Zh hd0
 obtain⟨sl,hsl⟩:=nm (S L)
 rw[← hsl] at HTk ⊢
 clear hL hd0 hsl
 go_enter_defers Tryz.func5,Tryz.ntmps5
 go_upto_region 1 with fail
 rw[← hW0]
 clear hW0
 go_wp2_with fail
 refine HTk.out.mono ?_
 clear HTk
 rintro e w1 ⟨rfl,rfl⟩
 have hd1:=HD0.out
 obtain⟨w2,hw2⟩:=nm (w1.setCell ⟨w.heap.size+1,0,none⟩ (.iface 50 (Zi 44)))
 have hd2:D2 w w2 (Zn) (Zn) (.iface 50 (Zi 44)):=by rw[hw2];exact hd1.err _
 have c1:w1.cell? ⟨w.heap.size+1,0,none⟩=some .nilIface:=by simp[World.cell?,hd1.b2]
 have f1:=frozen_of_row w1 (w.heap.size+1) 0 _ _ hd1.b2
 have c2:w2.cell? ⟨w.heap.size+1,0,none⟩=some (.iface 50 (Zi 44)):=by simp[World.cell?,hd2.b2]
 have HD2:=Zh hd2
 clear hd1 hd2 HD0
 go_upto_region 2 with fail
 rw[← hw2]
 clear hw2 c1 f1
 go_upto_region 3 with fail
 obtain⟨x0,x1⟩:=HD2.out.b1.cells
 obtain⟨f0,f1⟩:=HD2.out.b1.frz
 have f2:=frozen_of_row w2 (w.heap.size+1) 0 _ _ HD2.out.b2
 have hd7:=((HD2.out.src (Zn) (Zn)).err (.iface 50 (Zi 44))).kept (Grew.refl _).drew.below
 obtain⟨w7,hw7⟩:=nm ((((w2.setCell ⟨w.heap.size,0,none⟩ (Zn)).setCell ⟨w.heap.size,1,none⟩ (Zn)).setCell ⟨w.heap.size+1,0,none⟩ (.iface 50 (Zi 44))).drew)
 rw[← hw7] at hd7
 obtain⟨k1,k2⟩:=hd7.b1.cells
 have k3:w7.cell? ⟨w.heap.size+1,0,none⟩=some (.iface 50 (Zi 44)):=by simp[World.cell?,hd7.b2]
 have HK:Hid (w7.cell? ⟨w.heap.size,0,none⟩=some (Zn)∧w7.cell? ⟨w.heap.size,1,none⟩=some (Zn)∧w7.cell? ⟨w.heap.size+1,0,none⟩=some (.iface 50 (Zi 44))):=Zh ⟨k1,k2,k3⟩
 have HB:=Zh hd7.bel
 clear hd7 k1 k2 k3 HD2
 go_region
 rw[← hw7]
 clear hw7 x0 x1 f0 f1 f2 c2
 go_wp2
 obtain⟨k1,k2,k3⟩:=HK.out
 simp only[bodyPostD]
 simp[Leaves,results,Tryz.results5,go_sem,k1,k2,k3]
 exact HB.out
end Go.Proofs.YtlfooogmoigpfaaGreatDoor
