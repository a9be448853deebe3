import Derived.Test.YtlfooogmoigpfaaGreatDoorQau
import Derived.Test.YtlfooogmoigpfaaGreatDoorQaw
import Derived.Test.YtlfooogmoigpfaaGreatDoorQax
import Derived.Deep.RegionHeld3
import Derived.Test.YtlfooogmoigpfaaGreatDoorQaa
set_option maxRecDepth 100000
set_option maxHeartbeats 8000000
namespace Go.Proofs.YtlfooogmoigpfaaGreatDoor
open Go.RowKit Go.Sort Go.Shelf
def paOut (L:List UInt8):SR:=if L.length≤65536 then parseL L else .er (0,0) 44
def fltI (R:SR):Int × Int × Int:=match R with
 | .ok _=>(0,0,0)
 | .er p x=>((p.1:Int),(p.2:Int),(x:Int))
def srcO (R:SR) (P:Nat→Prop) (v:Value) (W:World):Prop:=match R with
 | .ok s=>okSrc P s v W
 | .er _ _=>v=.agg #[Zn,Zn]
structure D3 (w W:World) (v1 v2 x y z:Value):Prop where
 b1:RowS W w.heap.size v1 v2
 b2:W.heap[w.heap.size+1]? = some (.cells #[x,y,z] 27 (0,0))
 bel:Below w.heap.size w W
theorem D3.kept {w W W':World} {v1 v2 x y z:Value} (h:D3 w W v1 v2 x y z) (hb:Below W.heap.size W W'):D3 w W' v1 v2 x y z:=⟨h.b1.kept hb,(hb.block _ (blk_lt h.b2)).trans h.b2,h.bel.trans (hb.mono h.bel.size)⟩
theorem D3.t1 {w W W':World} {v1 v2 x y z:Value} {sb:Nat} (h:D3 w W v1 v2 x y z) (ht:T1 sb W W') (hs:w.heap.size+1 < sb):D3 w W' v1 v2 x y z:=
 ⟨h.b1.t1 ht (by omega),(ht.block _ (blk_lt h.b2) (by omega)).trans h.b2,⟨ht.os.trans h.bel.os,ht.tape.trans h.bel.tape,ht.output.trans h.bel.output,Nat.le_trans h.bel.size ht.size,fun k hk=>(ht.block k (Nat.lt_of_lt_of_le hk h.bel.size) (by omega)).trans (h.bel.block k hk)⟩⟩
theorem D3.cells {w W:World} {v1 v2 x y z:Value} (h:D3 w W v1 v2 x y z):(W.cell? ⟨w.heap.size,0,none⟩=some v1∧W.cell? ⟨w.heap.size,1,none⟩=some v2∧W.cell? ⟨w.heap.size+1,0,none⟩=some x∧W.cell? ⟨w.heap.size+1,1,none⟩=some y∧W.cell? ⟨w.heap.size+1,2,none⟩=some z)∧W.frozen? ⟨w.heap.size,0,none⟩=false∧W.frozen? ⟨w.heap.size,1,none⟩=false∧W.frozen? ⟨w.heap.size+1,0,none⟩=false∧W.frozen? ⟨w.heap.size+1,1,none⟩=false∧W.frozen? ⟨w.heap.size+1,2,none⟩=false:=by
 have h1:=h.b1
 unfold RowS at h1
 have h2:=h.b2
 exact⟨⟨by simp[World.cell?,h1],by simp[World.cell?,h1],by simp[World.cell?,h2],by simp[World.cell?,h2],by simp[World.cell?,h2]⟩,frozen_of_row W _ 0 _ _ h1,frozen_of_row W _ 1 _ _ h1,frozen_of_row W _ 0 _ _ h2,frozen_of_row W _ 1 _ _ h2,frozen_of_row W _ 2 _ _ h2⟩
theorem D3.put {w W:World} {v1 v2 x y z:Value} (h:D3 w W v1 v2 x y z) (a b c d e:Value):D3 w (((((W.setCell ⟨w.heap.size,0,none⟩ a).setCell ⟨w.heap.size,1,none⟩ b).setCell ⟨w.heap.size+1,0,none⟩ c).setCell ⟨w.heap.size+1,1,none⟩ d).setCell ⟨w.heap.size+1,2,none⟩ e) a b c d e:=by
 have h1:((W.setCell ⟨w.heap.size,0,none⟩ a).setCell ⟨w.heap.size,1,none⟩ b).heap[w.heap.size]? = some (.cells #[a,b] 25 (0,0)):=heap_setCell_same _ _ 1 _ _ _ (heap_setCell_same _ _ 0 _ _ _ h.b1)
 have h2:((W.setCell ⟨w.heap.size,0,none⟩ a).setCell ⟨w.heap.size,1,none⟩ b).heap[w.heap.size+1]? = some (.cells #[x,y,z] 27 (0,0)):=(heap_setCell_other _ _ _ _ (by show w.heap.size+1≠w.heap.size;omega)).trans ((heap_setCell_other _ _ _ _ (by show w.heap.size+1≠w.heap.size;omega)).trans h.b2)
 refine⟨?_,heap_setCell_same _ _ 2 _ _ _ (heap_setCell_same _ _ 1 _ _ _ (heap_setCell_same _ _ 0 _ _ _ h2)),?_⟩
 ·exact (heap_setCell_other _ _ _ _ (by show w.heap.size≠w.heap.size+1;omega)).trans ((heap_setCell_other _ _ _ _ (by show w.heap.size≠w.heap.size+1;omega)).trans ((heap_setCell_other _ _ _ _ (by show w.heap.size≠w.heap.size+1;omega)).trans h1))
 ·exact ((((h.bel.setCell (p:=⟨w.heap.size,0,none⟩) (Nat.le_refl _) a).setCell (p:=⟨w.heap.size,1,none⟩) (Nat.le_refl _) b).setCell (p:=⟨w.heap.size+1,0,none⟩) (by show w.heap.size≤w.heap.size+1;omega) c).setCell (p:=⟨w.heap.size+1,1,none⟩) (by show w.heap.size≤w.heap.size+1;omega) d).setCell (p:=⟨w.heap.size+1,2,none⟩) (by show w.heap.size≤w.heap.size+1;omega) e
theorem tkR_er (L:List UInt8):∀(f k:Nat) (acc:List Tok) (p:Nat × Nat) (e:Nat),tkR L f k acc=.er p e→e≠0
 | 0,k,acc,p,e,h=>by simp only[tkR] at h;cases h
 | f+1,k,acc,p,e,h=>by
  unfold tkR at h
  split at h
  ·cases h
  ·split at h
   ·rename_i x hx
    simp only[TR.er.injEq] at h
    rw[← h.2]
    exact tokA_er hx
   ·exact tkR_er L f _ _ p e h
theorem dparse_er (w:World) (L:List UInt8) (x y z:Int) (hz:z≠0) (hT:∀U,Calls Tryz.prog 9 #[.string (S L)] U fun e w'=>(∃a n c,e=.returned (.tuple #[.slice a n c,.agg #[Zi x,Zi y,Zi z]]))∧Below U.heap.size U w') :
  Calls Tryz.prog 4 #[.string (S L)] w fun e w'=>e=.returned (.tuple #[.agg #[Zn,Zn],.agg #[Zi x,Zi y,Zi z]])∧Below w.heap.size w w':=by
 obtain⟨W0,hW0⟩:=nm ((w.alloc (.cells #[Zn,Zn] 25)).alloc (.cells #[Zi 0,Zi 0,Zi 0] 27))
 have hd0:D3 w W0 (Zn) (Zn) (Zi 0) (Zi 0) (Zi 0):=by
  rw[hW0]
  exact⟨(heap_alloc_old _ _ (by simp)).trans (heap_alloc_new _ _ rfl),heap_alloc_new _ _ (by simp),((Below.refl _ _).alloc (Nat.le_refl _) _).alloc (by simp) _⟩
 have HTk:=Zh (hT W0)
 have hzI:(z != 0)=true:=by simpa using hz
 have HD0:=Zh hd0
 obtain⟨sl,hsl⟩:=nm (S L)
 rw[← hsl] at HTk ⊢
 clear hd0 hsl hT hz
 go_enter Tryz.func4,Tryz.ntmps4
 go_upto_region 1 with fail
 rw[← hW0]
 clear hW0
 go_wp2_with fail
 refine HTk.out.mono ?_
 clear HTk
 rintro e w1 ⟨⟨a,n,c,rfl⟩,hb1⟩
 obtain⟨w2,hw2⟩:=nm (w1.alloc (.cells #[Zi x,Zi y,Zi z] 27))
 obtain⟨B,hB⟩:=nm (w1.heap.size)
 have hb2:Below w1.heap.size w1 w2:=by rw[hw2];exact bel_al _ _
 have hF:w2.heap[B]? = some (.cells #[Zi x,Zi y,Zi z] 27 (0,0)):=by rw[hw2,hB];exact heap_alloc_new _ _ rfl
 have HD:=Zh (HD0.out.kept (hb1.trans (hb2.mono hb1.size)))
 have hlo:w.heap.size+1 < B:=hB▸Nat.lt_of_lt_of_le (blk_lt HD0.out.b2) hb1.size
 have n0:B≠w.heap.size:=by omega
 have n1:w.heap.size≠B:=by omega
 have n2:B≠w.heap.size+1:=by omega
 have n3:w.heap.size+1≠B:=by omega
 have x0:w2.cell? ⟨B,0,none⟩=some (Zi x):=by simp[World.cell?,hF]
 have x1:w2.cell? ⟨B,1,none⟩=some (Zi y):=by simp[World.cell?,hF]
 have x2:w2.cell? ⟨B,2,none⟩=some (Zi z):=by simp[World.cell?,hF]
 clear hb1 hb2 hF HD0
 go_upto_region 2 with fail
 rw[← hw2,← hB]
 clear hw2 hB
 have hd7:=(HD.out.put (Zn) (Zn) (Zi x) (Zi y) (Zi z)).kept (Grew.refl _).drew.below
 obtain⟨w7,hw7⟩:=nm ((((((w2.setCell ⟨w.heap.size,0,none⟩ (Zn)).setCell ⟨w.heap.size,1,none⟩ (Zn)).setCell ⟨w.heap.size+1,0,none⟩ (Zi x)).setCell ⟨w.heap.size+1,1,none⟩ (Zi y)).setCell ⟨w.heap.size+1,2,none⟩ (Zi z)).drew)
 rw[← hw7] at hd7
 have HK:=Zh hd7.cells.1
 have HB:=Zh hd7.bel
 obtain⟨⟨y0,y1,y2,y3,y4⟩,g0,g1,g2,g3,g4⟩:=HD.out.cells
 clear hd7 HD
 go_upto_region 3 with fail
 go_region
 rw[← hw7]
 clear hw7 x0 x1 x2 y0 y1 y2 y3 y4 g0 g1 g2 g3 g4
 go_wp2_with fail
 obtain⟨k0,k1,k2,k3,k4⟩:=HK.out
 exact bodyPost_ret (v:=.tuple #[.agg #[Zn,Zn],.agg #[Zi x,Zi y,Zi z]]) (by simp[results,Tryz.results4,go_sem,k0,k1,k2,k3,k4]) rfl ⟨rfl,HB.out⟩
def DPaP (w:World) (L:List UInt8) (e:Ending) (w':World):Prop:=∃v,e=.returned (.tuple #[v,.agg #[Zi (fltI (paOut L)).1,Zi (fltI (paOut L)).2.1,Zi (fltI (paOut L)).2.2]])∧srcO (paOut L) (New noB w.heap.size) v w'∧Below w.heap.size w w'
def outG:PR SrcS→SR
 | .er p e=>.er p e
 | .ok s _=>.ok s
theorem parseL_ok {L:List UInt8} {ts:List Tok} (hL:L.length≤65536) (hk:tksA L=.ok ts):paOut L=outG (pSrc (spL (1,1) L) (ts.length+1) ⟨[],[]⟩ ts):=by
 unfold paOut parseL outG
 rw[if_pos hL,hk]
 dsimp only
 generalize pSrc (spL (1,1) L) (ts.length+1) ⟨[],[]⟩ ts=q
 cases q <;> rfl
theorem dparse_ok (w:World) (L:List UInt8) (hL:L.length≤65536) (ts:List Tok) (hk:tksA L=.ok ts) :
  Calls Tryz.prog 4 #[.string (S L)] w fun e w'=>DPaP w L e w':=by
 obtain⟨W0,hW0⟩:=nm ((w.alloc (.cells #[Zn,Zn] 25)).alloc (.cells #[Zi 0,Zi 0,Zi 0] 27))
 have hd0:D3 w W0 (Zn) (Zn) (Zi 0) (Zi 0) (Zi 0):=by
  rw[hW0]
  exact⟨(heap_alloc_old _ _ (by simp)).trans (heap_alloc_new _ _ rfl),heap_alloc_new _ _ (by simp),((Below.refl _ _).alloc (Nat.le_refl _) _).alloc (by simp) _⟩
 obtain⟨G,hG⟩:∃G:PR SrcS,G=pSrc (spL (1,1) L) (ts.length+1) ⟨[],[]⟩ ts:=⟨_,rfl⟩
 have HR:Hid (paOut L=outG G):=Zh (by rw[hG];exact parseL_ok hL hk)
 have HTk:=rtokens_any W0 L hL
 rw[hk] at HTk
 have HTk:=Zh HTk
 have HLn:Hid (ts.length≤65536):=Zh (by
  have:=tkR_len2 L _ 0 [] ts hk (by omega)
  simp only[List.length_nil] at this
  omega)
 have HOk:=Zh (tksA_ok hk)
 have HD0:=Zh hd0
 have hs9:(S L).size=L.length:=S_size L
 have HSp:Hid (∀U,Calls Tryz.prog 10 #[.string (S L),Zi (((S L).size:Nat):Int)] U fun e w'=>e=.returned (.agg #[Zi ((spL (1,1) L).1:Int),Zi ((spL (1,1) L).2:Int)])∧Below U.heap.size U w'):=Zh (fun U=>by rw[hs9];exact dspotT_any U L hL)
 have hs8:(S L).size≤65536:=by omega
 generalize spL (1,1) L=en at HSp hG
 obtain⟨e1,e2⟩:=en
 have HG:=Zh hG
 obtain⟨sl,hsl⟩:=nm (S L)
 rw[← hsl] at HTk HSp hs8 ⊢
 clear hd0 hsl hk hs9 hL hG
 go_enter Tryz.func4,Tryz.ntmps4
 go_upto_region 1 with fail
 rw[← hW0]
 clear hW0
 go_wp2_with fail
 refine HTk.out.mono ?_
 clear HTk
 rintro e w1 ⟨a,c,rfl,ho,hb1⟩
 obtain⟨w2,hw2⟩:=nm (w1.alloc (.cells #[Zi 0,Zi 0,Zi 0] 27))
 obtain⟨B,hB⟩:=nm (w1.heap.size)
 have hb2:Below w1.heap.size w1 w2:=by rw[hw2];exact bel_al _ _
 have hF:w2.heap[B]? = some (.cells #[Zi 0,Zi 0,Zi 0] 27 (0,0)):=by rw[hw2,hB];exact heap_alloc_new _ _ rfl
 have HD:=Zh (HD0.out.kept (hb1.trans (hb2.mono hb1.size)))
 have ho2:OwnT w2 W0.heap.size (.slice a ts.length c) ts:=ownsRow_same ho (fun g hg=>hb2.block g (World.ownsRow.lt ho g hg).2)
 have HO:=Zh ho2
 have x2:w2.cell? ⟨B,2,none⟩=some (Zi 0):=by simp[World.cell?,hF]
 obtain⟨n,hn⟩:=nm (ts.length)
 have HN:=Zh hn
 rw[← hn]
 clear hb1 hb2 hF HD0 ho ho2 hn
 go_upto_region 2 with fail
 rw[← hw2,← hB]
 clear hw2 hB
 go_wp2_with fail
 refine (HSp.out w2).mono ?_
 clear HSp
 rintro e w3 ⟨rfl,hb3⟩
 obtain⟨w4,hw4⟩:=nm (w3.alloc (.cells #[.slice a n c,Zi 0,Zi (e1:Int),Zi (e2:Int),Zi 0,Zi 0,Zi 0,Zi 0] 46))
 obtain⟨pb,hpb⟩:=nm (w3.heap.size)
 have hb4:Below w3.heap.size w3 w4:=by rw[hw4];exact bel_al _ _
 have ho3:OwnT w3 W0.heap.size (.slice a ts.length c) ts:=ownsRow_same HO.out (fun g hg=>hb3.block g (World.ownsRow.lt HO.out g hg).2)
 have hdx:DBx w4 pb (.slice a n c) 0 (e1,e2) (0,0) 0 0:=by rw[hw4,hpb];exact heap_alloc_new _ _ rfl
 have hta:TsAt w4 pb (.slice a n c) ts:=by
  have:=tsat_of ho3 (Nat.le_of_eq hpb.symm)
  rw[HN.out]
  exact this.same (fun k hk=>hb4.block k (by rw[← hpb];exact hk))
 have hds:DS w4 pb (.slice a n c) ts (e1,e2) 0 (PR.ok () ts:PR Unit):=⟨by omega,0,by omega,rfl,hdx,hta⟩
 have hd4:=HD.out.kept (hb3.trans (hb4.mono hb3.size))
 have hlo:w.heap.size+1 < pb:=by
  have h1:=blk_lt HD.out.b2
  have h2:=hb3.size
  omega
 have HLo:Hid (w.heap.size+1 < pb∧pb < w4.heap.size):=Zh ⟨hlo,blk_lt hdx⟩
 have HD4:=Zh hd4
 have HSr:=Zh (dsource_any HOk.out HLn.out w4 ts hds)
 rw[← HG.out] at HSr
 clear hb3 hb4 ho3 hdx hta hds hd4 hlo HD HO HG x2
 go_upto_region 5 with fail
 rw[← hw4,← hpb]
 clear hw4 hpb
 go_wp2_with fail
 refine HSr.out.mono ?_
 clear HSr
 rintro e w5 ⟨_,rfl,⟨ca,pa,cn,cc,pn,pc,rfl⟩,hds5,ht5,hv5⟩
 obtain⟨w6,hw6⟩:=nm (w5.alloc (.cells #[.slice ca cn cc,.slice pa pn pc] 25))
 obtain⟨Q,hQ⟩:=nm (w5.heap.size)
 have hb6:Below w5.heap.size w5 w6:=by rw[hw6];exact bel_al _ _
 have hS:RowS w6 Q (.slice ca cn cc) (.slice pa pn pc):=by rw[hw6,hQ];exact heap_alloc_new _ _ rfl
 have hd6:=(HD4.out.t1 ht5 HLo.out.1).kept hb6
 have hds6:=hds5.kept hb6
 have hqb:pb < Q:=by have:=HLo.out.2;have:=ht5.size;omega
 have hlo:=HLo.out.1
 have n0:Q≠w.heap.size:=by omega
 have n1:w.heap.size≠Q:=by omega
 have n2:Q≠w.heap.size+1:=by omega
 have n3:w.heap.size+1≠Q:=by omega
 have m0:pb≠w.heap.size:=by omega
 have m1:w.heap.size≠pb:=by omega
 have m2:pb≠w.heap.size+1:=by omega
 have m3:w.heap.size+1≠pb:=by omega
 have hV:∀s r,G=.ok s r→okSrc (New noB w4.heap.size) s (.agg #[.slice ca cn cc,.slice pa pn pc]) w6:=fun s r e=>okSrc_f _ _ _ _ _ _ (hv5 s r e) (fun _ q=>q) (fun k _ hl=>hb6.block k hl)
 have HV:=Zh hV
 clear hds5 ht5 hv5 hb6 hV hqb
 go_upto_region 6 with fail
 rw[← hw6,← hQ]
 clear hw6 hQ
 cases G with
 | er p x=>
  obtain⟨hx,k,_,hdx,_⟩:=hds6
  obtain⟨_,_,_,_,c4,c5,c6,_⟩:=hdx.cells
  obtain⟨p1,p2⟩:=p
  obtain⟨xi,hxi⟩:∃xi:Int,xi=(x:Int):=⟨_,rfl⟩
  obtain⟨pi,hpi⟩:∃xi:Int,xi=(p1:Int):=⟨_,rfl⟩
  obtain⟨qi,hqi⟩:∃xi:Int,xi=(p2:Int):=⟨_,rfl⟩
  have hxi0:(xi != 0)=true:=by simp;omega
  have HRo:Hid (paOut L=.er (p1,p2) x∧(x:Int)=xi∧(p1:Int)=pi∧(p2:Int)=qi):=Zh ⟨HR.out,hxi.symm,hpi.symm,hqi.symm⟩
  simp only at c4 c5
  rw[← hxi] at c6
  rw[← hpi] at c4
  rw[← hqi] at c5
  have hd7:=(hd6.put (Zn) (Zn) (Zi pi) (Zi qi) (Zi xi)).kept (Grew.refl _).drew.below
  obtain⟨w7,hw7⟩:=nm ((((((w6.setCell ⟨w.heap.size,0,none⟩ (Zn)).setCell ⟨w.heap.size,1,none⟩ (Zn)).setCell ⟨w.heap.size+1,0,none⟩ (Zi pi)).setCell ⟨w.heap.size+1,1,none⟩ (Zi qi)).setCell ⟨w.heap.size+1,2,none⟩ (Zi xi)).drew)
  rw[← hw7] at hd7
  have HK:=Zh hd7.cells.1
  have HF:Hid (DPaP w L (.returned (.tuple #[.agg #[Zn,Zn],.agg #[Zi pi,Zi qi,Zi xi]])) w7):=Zh (by
   obtain⟨h1,h2,h3,h4⟩:=HRo.out
   unfold DPaP
   rw[h1]
   exact⟨_,by simp only[fltI,h2,h3,h4],rfl,hd7.bel⟩)
  obtain⟨⟨y0,y1,y2,y3,y4⟩,g0,g1,g2,g3,g4⟩:=hd6.cells
  clear hd7 hd6 hx hdx hxi hpi hqi HR HRo HD4 HLo hS HV HN hs8 HOk HLn
  go_upto_region 7 with fail
  go_region
  rw[← hw7]
  clear hw7 y0 y1 y2 y3 y4 g0 g1 g2 g3 g4 c4 c5 c6
  go_wp2_with fail
  obtain⟨k0,k1,k2,k3,k4⟩:=HK.out
  exact bodyPost_ret (v:=.tuple #[.agg #[Zn,Zn],.agg #[Zi pi,Zi qi,Zi xi]]) (by simp[results,Tryz.results4,go_sem,k0,k1,k2,k3,k4]) rfl HF.out
 | ok s r=>
  obtain⟨_,k,_,_,hdx,_⟩:=hds6
  obtain⟨_,_,_,_,_,_,c6,_⟩:=hdx.cells
  have hok:=HV.out s r rfl
  have hd7:=hd6.put (.slice ca cn cc) (.slice pa pn pc) (Zi 0) (Zi 0) (Zi 0)
  obtain⟨w7,hw7⟩:=nm ((((((w6.setCell ⟨w.heap.size,0,none⟩ (.slice ca cn cc)).setCell ⟨w.heap.size,1,none⟩ (.slice pa pn pc)).setCell ⟨w.heap.size+1,0,none⟩ (Zi 0)).setCell ⟨w.heap.size+1,1,none⟩ (Zi 0)).setCell ⟨w.heap.size+1,2,none⟩ (Zi 0)))
  rw[← hw7] at hd7
  have hoth:∀k,w.heap.size+1 < k→w7.heap[k]? = w6.heap[k]?:=fun k hk=>by
   rw[hw7,heap_setCell_other _ ⟨w.heap.size+1,2,none⟩ _ _ (by show k≠w.heap.size+1;omega),heap_setCell_other _ ⟨w.heap.size+1,1,none⟩ _ _ (by show k≠w.heap.size+1;omega),heap_setCell_other _ ⟨w.heap.size+1,0,none⟩ _ _ (by show k≠w.heap.size+1;omega),heap_setCell_other _ ⟨w.heap.size,1,none⟩ _ _ (by show k≠w.heap.size;omega),heap_setCell_other _ ⟨w.heap.size,0,none⟩ _ _ (by show k≠w.heap.size;omega)]
  have HK:=Zh hd7.cells.1
  have HF:Hid (DPaP w L (.returned (.tuple #[.agg #[.slice ca cn cc,.slice pa pn pc],.agg #[Zi 0,Zi 0,Zi 0]])) w7):=Zh (by
   have h1:paOut L=.ok s:=HR.out
   unfold DPaP
   rw[h1]
   refine⟨_,rfl,?_,hd7.bel⟩
   have h9:=HLo.out
   exact okSrc_f _ _ _ _ _ _ hok (fun k hk=>hk.imp id (fun h=>by omega)) (fun k hk _=>hoth k (by
    rcases hk with hk | hk
    ·exact hk.elim
    ·omega)))
  obtain⟨⟨y0,y1,y2,y3,y4⟩,g0,g1,g2,g3,g4⟩:=hd6.cells
  have z0:w6.cell? ⟨Q,0,none⟩=some (.slice ca cn cc):=by unfold RowS at hS;simp[World.cell?,hS]
  have z1:w6.cell? ⟨Q,1,none⟩=some (.slice pa pn pc):=by unfold RowS at hS;simp[World.cell?,hS]
  clear hd7 hd6 hdx HR HD4 HLo hS HV HN hs8 HOk HLn hok hoth
  go_wp2_with fail
  rw[← hw7]
  clear hw7 y0 y1 y2 y3 y4 g0 g1 g2 g3 g4 c6 z0 z1
  obtain⟨k0,k1,k2,k3,k4⟩:=HK.out
  exact bodyPost_ret (v:=.tuple #[.agg #[.slice ca cn cc,.slice pa pn pc],.agg #[Zi 0,Zi 0,Zi 0]]) (by simp[results,Tryz.results4,go_sem,k0,k1,k2,k3,k4]) rfl HF.out
theorem dparse_any (w:World) (L:List UInt8):Calls Tryz.prog 4 #[.string (S L)] w fun e w'=>DPaP w L e w':=by
 by_cases hL:L.length≤65536
 ·cases hk:tksA L with
  | ok ts=>exact dparse_ok w L hL ts hk
  | er p x=>
   have hx:x≠0:=tkR_er L _ 0 [] p x hk
   have hp:paOut L=.er p x:=by unfold paOut parseL;rw[if_pos hL,hk]
   refine (dparse_er w L (p.1:Int) (p.2:Int) (x:Int) (by omega) (fun U=>(rtokens_any U L hL).mono ?_)).mono ?_
   ·rintro e w1 h
    rw[hk] at h
    obtain⟨rfl,hb⟩:=h
    exact⟨⟨_,_,_,rfl⟩,hb⟩
   ·rintro e w1 ⟨rfl,hb⟩
    unfold DPaP
    rw[hp]
    exact⟨_,rfl,rfl,hb⟩
 ·have hp:paOut L=.er (0,0) 44:=by unfold paOut;rw[if_neg hL]
  refine (dparse_er w L 0 0 44 (by omega) (fun U=>(rtokLong_any U L (by omega)).mono ?_)).mono ?_
  ·rintro e w1 ⟨rfl,hb⟩
   exact⟨⟨_,_,_,rfl⟩,hb⟩
  ·rintro e w1 ⟨rfl,hb⟩
   unfold DPaP
   rw[hp]
   exact⟨_,rfl,rfl,hb⟩
inductive BdE:Ex→Prop where
 | mk (k op:Nat) (n:Int) (nm:List UInt8) (args:List Ex) (p:Nat × Nat):args.length≤70000→(∀y,y∈args→BdE y)→BdE (.mk k op n nm args p)
theorem run_neSp (l c:Int) (w:World):Sem.run Tryz.prog (binOp .neq 43 (.agg #[Zi l,Zi c]) (.agg #[Zi l,Zi c])) w=.ok (.bool false) w:=by
 have u1:=Tryz.underlying3
 have a1:=Tryz.isAgg3
 have z1:=Tryz.sizeOf3
 have hS':Tryz.prog.underlying 43=some (.struct (Tryz.prog.fieldsOf 43)):=by kernel_rfl
 have hp':Tryz.prog.stoodInHeld 43=false:=by kernel_rfl
 rw[run_neq_struct,show (10000:Nat)=9999+1 from rfl,run_equalIn_agg w 9999 43 _ _ hS' hp']
 simp only[Program.fieldsOf,Tryz.underlying43]
 go_simp
theorem guardSp:GuardAt Tryz.prog 43 (fun x:Int × Int=>.agg #[Zi x.1,Zi x.2]):=GuardAt.agg _ (by kernel_rfl)
theorem run_guardSp (op:BinOp) (a b:Operand) (l c:Int) (w:World):Sem.run Tryz.prog (eqGuard op 43 a b (.agg #[Zi l,Zi c]) (.agg #[Zi l,Zi c])) w=.ok () w:=guardSp op a b (l,c) (l,c) w
theorem ExsC.at {P:Nat→Prop} {W:World} : ∀{xs:List Ex} {cs:List Value},ExsC P W xs cs→∀{i:Nat} (hi:i < xs.length),∃v0 v1 v2 v3 v4 v5 v6,okE P xs[i] (.agg #[v0,v1,v2,v3,v4,v5,v6]) W∧cs[i * 7]? = some v0∧cs[i * 7+1]? = some v1∧cs[i * 7+2]? = some v2∧cs[i * 7+3]? = some v3∧cs[i * 7+4]? = some v4∧cs[i * 7+5]? = some v5∧cs[i * 7+6]? = some v6
 | _,_,.nil,i,hi=>absurd hi (Nat.not_lt_zero i)
 | _,_,.cons k op n nm args p A xs cs h1 h2,0,hi=>⟨_,_,_,_,_,_,_,⟨A,rfl,h1⟩,rfl,rfl,rfl,rfl,rfl,rfl,rfl⟩
 | _,_,.cons k op n nm args p A xs cs h1 h2,i+1,hi=>by
  obtain⟨v0,v1,v2,v3,v4,v5,v6,h,c0,c1,c2,c3,c4,c5,c6⟩:=ExsC.at h2 (i:=i) (Nat.lt_of_succ_lt_succ hi)
  refine⟨v0,v1,v2,v3,v4,v5,v6,h,?_,?_,?_,?_,?_,?_,?_⟩
  ·rw[show (i+1) * 7=i * 7+1+1+1+1+1+1+1 by omega];exact c0
  ·rw[show (i+1) * 7+1=(i * 7+1)+1+1+1+1+1+1+1 by omega];exact c1
  ·rw[show (i+1) * 7+2=(i * 7+2)+1+1+1+1+1+1+1 by omega];exact c2
  ·rw[show (i+1) * 7+3=(i * 7+3)+1+1+1+1+1+1+1 by omega];exact c3
  ·rw[show (i+1) * 7+4=(i * 7+4)+1+1+1+1+1+1+1 by omega];exact c4
  ·rw[show (i+1) * 7+5=(i * 7+5)+1+1+1+1+1+1+1 by omega];exact c5
  ·rw[show (i+1) * 7+6=(i * 7+6)+1+1+1+1+1+1+1 by omega];exact c6
theorem arc_at {P:Nat→Prop} {W:World} {xs:List Ex} {v:Value} (h:ArC P W xs v) {i:Nat} (hi:i < xs.length):∃g v0 v1 v2 v3 v4 v5 v6,v=.slice (some ⟨g,0,none⟩) xs.length xs.length∧okE P xs[i] (.agg #[v0,v1,v2,v3,v4,v5,v6]) W∧W.cell? ⟨g,i * 7,none⟩=some v0∧W.cell? ⟨g,i * 7+1,none⟩=some v1∧W.cell? ⟨g,i * 7+2,none⟩=some v2∧W.cell? ⟨g,i * 7+3,none⟩=some v3∧W.cell? ⟨g,i * 7+4,none⟩=some v4∧W.cell? ⟨g,i * 7+5,none⟩=some v5∧W.cell? ⟨g,i * 7+6,none⟩=some v6:=by
 cases h with
 | none=>exact absurd hi (Nat.not_lt_zero i)
 | row g xs cs hp hg hx=>
  obtain⟨v0,v1,v2,v3,v4,v5,v6,h,c0,c1,c2,c3,c4,c5,c6⟩:=hx.at hi
  refine⟨g,v0,v1,v2,v3,v4,v5,v6,rfl,h,?_,?_,?_,?_,?_,?_,?_⟩ <;> simp[World.cell?, *]
theorem bel_cell {U V:World} {b i:Nat} {v:Value} (h:Below U.heap.size U V) (hc:U.cell? ⟨b,i,none⟩=some v):V.cell? ⟨b,i,none⟩=some v:=by
 by_cases hb:b < U.heap.size
 ·exact (h.cell (p:=⟨b,i,none⟩) hb).trans hc
 ·have:U.heap[b]? = none:=Array.getElem?_eq_none (Nat.le_of_not_lt hb)
  simp[World.cell?,this] at hc
def SameE (x:Ex):Prop:=∀(W:World) (P Q:Nat→Prop) (va vb:Value),okE P x va W→okE Q x vb W→Calls Tryz.prog 19 #[va,vb,.bool true] W fun e w'=>e=.returned (.bool true)∧Below W.heap.size W w'
theorem same_e {x:Ex} (h:BdE x):SameE x:=by
 induction h with
 | mk k op n nm args p hl hb ih=>
  intro W P Q va vb ha hb'
  obtain⟨A,rfl,hA⟩:=ha
  obtain⟨B,rfl,hB⟩:=hb'
  obtain⟨ao,rfl⟩:=hA.slice
  obtain⟨bo,rfl⟩:=hB.slice
  obtain⟨N,hN⟩:∃z,z=args.length:=⟨_,rfl⟩
  have HN:=Zh hN
  have hl9:N≤70000:=by rw[hN];exact hl
  obtain⟨ki,hki⟩:∃z:Int,z=(k:Int):=⟨_,rfl⟩
  obtain⟨oi,hoi⟩:∃z:Int,z=(op:Int):=⟨_,rfl⟩
  obtain⟨p1,hp1⟩:∃z:Int,z=(p.1:Int):=⟨_,rfl⟩
  obtain⟨p2,hp2⟩:∃z:Int,z=(p.2:Int):=⟨_,rfl⟩
  obtain⟨s,hs⟩:∃z,z=S nm:=⟨_,rfl⟩
  obtain⟨cx,hcx⟩:∃c:Array Value,c = #[Zi ki,Zi oi,Zi n,.string s,.slice ao N N,Zi p1,Zi p2]:=⟨_,rfl⟩
  obtain⟨cy,hcy⟩:∃c:Array Value,c = #[Zi ki,Zi oi,Zi n,.string s,.slice bo N N,Zi p1,Zi p2]:=⟨_,rfl⟩
  obtain⟨W2,hW2⟩:∃z,z=(W.alloc (.cells cx 66)).alloc (.cells cy 66):=⟨_,rfl⟩
  have hbW:Below W.heap.size W W2:=by rw[hW2];exact ((Below.refl _ _).alloc (Nat.le_refl _) _).alloc (by simp) _
  have h1:W2.heap[W.heap.size]? = some (.cells cx 66 (0,0)):=by rw[hW2];exact (heap_alloc_old _ _ (by simp)).trans (heap_alloc_new _ _ rfl)
  have h2:W2.heap[W.heap.size+1]? = some (.cells cy 66 (0,0)):=by rw[hW2];exact heap_alloc_new _ _ (by simp)
  have HX:Hid (∀U,Below W2.heap.size W2 U→(U.cell? ⟨W.heap.size,0,none⟩=some (Zi ki)∧U.cell? ⟨W.heap.size,1,none⟩=some (Zi oi)∧U.cell? ⟨W.heap.size,2,none⟩=some (Zi n)∧U.cell? ⟨W.heap.size,3,none⟩=some (.string s)∧U.cell? ⟨W.heap.size,4,none⟩=some (.slice ao N N)∧U.cell? ⟨W.heap.size,5,none⟩=some (Zi p1)∧U.cell? ⟨W.heap.size,6,none⟩=some (Zi p2))∧U.cell? ⟨W.heap.size+1,0,none⟩=some (Zi ki)∧U.cell? ⟨W.heap.size+1,1,none⟩=some (Zi oi)∧U.cell? ⟨W.heap.size+1,2,none⟩=some (Zi n)∧U.cell? ⟨W.heap.size+1,3,none⟩=some (.string s)∧U.cell? ⟨W.heap.size+1,4,none⟩=some (.slice bo N N)∧U.cell? ⟨W.heap.size+1,5,none⟩=some (Zi p1)∧U.cell? ⟨W.heap.size+1,6,none⟩=some (Zi p2)):=Zh fun U hU=>by
   have q1:=(hU.block _ (blk_lt h1)).trans h1
   have q2:=(hU.block _ (blk_lt h2)).trans h2
   rw[hcx] at q1
   rw[hcy] at q2
   refine⟨⟨?_,?_,?_,?_,?_,?_,?_⟩,?_,?_,?_,?_,?_,?_,?_⟩ <;> simp[World.cell?,q1,q2]
  have HA:Hid (∀U,Below W2.heap.size W2 U→ArC P U args (.slice ao N N)):=Zh fun U hU=>by
   have hb9:=hbW.trans (hU.mono hbW.size)
   rw[HN.out]
   exact hA.kept (fun _ q=>q) (fun k _ hk=>hb9.block k hk)
  have HB:Hid (∀U,Below W2.heap.size W2 U→ArC Q U args (.slice bo N N)):=Zh fun U hU=>by
   have hb9:=hbW.trans (hU.mono hbW.size)
   rw[HN.out]
   exact hB.kept (fun _ q=>q) (fun k _ hk=>hb9.block k hk)
  have HW:=Zh hbW
  have HIh:=Zh ih
  have hsp:=run_neSp p1 p2
  have hgd:=fun op a b=>run_guardSp op a b p1 p2
  rw[← hki,← hoi,← hp1,← hp2,← hs,← hN]
  obtain⟨⟨x0,x1,x2,x3,x4,x5,x6⟩,y0,y1,y2,y3,y4,y5,y6⟩:=HX.out W2 (Below.refl _ _)
  clear hA hB hN hl hki hoi hp1 hp2 hs hbW h1 h2 ih hb
  go_enter Tryz.func19,Tryz.ntmps19
  go_upto_region 1 with fail
  rw[← hcx,← hcy,← hW2]
  clear hcx hcy hW2
  go_wp2_with fail
  clear x0 x1 x2 x3 x4 x5 x6 y0 y1 y2 y3 y4 y5 y6
  go_loopw[7] (fun x wr=>∃(i:Nat),i≤N∧x=Zi (i:Int)∧Below W2.heap.size W2 wr) (fun x _=>N - (intOf x).toNat)
  case atStart=>exact⟨0,Nat.zero_le _,rfl,Below.refl _ _⟩
  case round=>
   obtain⟨i,hi,rfl,hbr⟩:=hrel
   have HBr:=Zh hbr
   obtain⟨⟨x0,x1,x2,x3,x4,x5,x6⟩,y0,y1,y2,y3,y4,y5,y6⟩:=HX.out wr hbr
   clear x0 x1 x2 x3 x5 x6 y0 y1 y2 y3 y5 y6 hbr
   by_cases hlt:i < N
   ·have hil:i < args.length:=by have:=HN.out;omega
    obtain⟨g1,u0,u1,u2,u3,u4,u5,u6,e1,hu,c0,c1,c2,c3,c4,c5,c6⟩:=arc_at (HA.out wr HBr.out) hil
    obtain⟨g2,v0,v1,v2,v3,v4,v5,v6,e2,hv,d0,d1,d2,d3,d4,d5,d6⟩:=arc_at (HB.out wr HBr.out) hil
    simp only[Value.slice.injEq] at e1 e2
    replace e1:=e1.1
    replace e2:=e2.1
    subst e1 e2
    have HC:Hid (∀U,Below wr.heap.size wr U→Calls Tryz.prog 19 #[.agg #[u0,u1,u2,u3,u4,u5,u6],.agg #[v0,v1,v2,v3,v4,v5,v6],.bool true] U fun e w'=>e=.returned (.bool true)∧Below U.heap.size U w'):=Zh fun U hU=>HIh.out _ (List.getElem_mem hil) U P Q _ _ (okE_f _ _ _ _ _ _ hu (fun _ q=>q) (fun k _ hk=>hU.block k hk)) (okE_f _ _ _ _ _ _ hv (fun _ q=>q) (fun k _ hk=>hU.block k hk))
    have HDr:Hid (Below wr.heap.size wr wr.drew):=Zh (Grew.refl wr).drew.below
    have hib:decide ((i:Int) < (N:Int))=true:=by simp;omega
    have HKS:Hid (∀w',Below wr.heap.size wr w'→w'.cell? ⟨W.heap.size,4,none⟩=some (.slice (some ⟨g1,0,none⟩) N N)∧w'.cell? ⟨W.heap.size+1,4,none⟩=some (.slice (some ⟨g2,0,none⟩) N N)∧(w'.cell? ⟨g1,i * 7,none⟩=some u0∧w'.cell? ⟨g1,i * 7+1,none⟩=some u1∧w'.cell? ⟨g1,i * 7+2,none⟩=some u2∧w'.cell? ⟨g1,i * 7+3,none⟩=some u3∧w'.cell? ⟨g1,i * 7+4,none⟩=some u4∧w'.cell? ⟨g1,i * 7+5,none⟩=some u5∧w'.cell? ⟨g1,i * 7+6,none⟩=some u6)∧w'.cell? ⟨g2,i * 7,none⟩=some v0∧w'.cell? ⟨g2,i * 7+1,none⟩=some v1∧w'.cell? ⟨g2,i * 7+2,none⟩=some v2∧w'.cell? ⟨g2,i * 7+3,none⟩=some v3∧w'.cell? ⟨g2,i * 7+4,none⟩=some v4∧w'.cell? ⟨g2,i * 7+5,none⟩=some v5∧w'.cell? ⟨g2,i * 7+6,none⟩=some v6):=Zh fun U hU=>⟨bel_cell hU x4,bel_cell hU y4,⟨bel_cell hU c0,bel_cell hU c1,bel_cell hU c2,bel_cell hU c3,bel_cell hU c4,bel_cell hU c5,bel_cell hU c6⟩,bel_cell hU d0,bel_cell hU d1,bel_cell hU d2,bel_cell hU d3,bel_cell hU d4,bel_cell hU d5,bel_cell hU d6⟩
    clear hu hv
    go_upto_region 6 with fail
    go_region_held3 (fun w'=>w'.cell? ⟨W.heap.size,4,none⟩=some (.slice (some ⟨g1,0,none⟩) N N)∧w'.cell? ⟨W.heap.size+1,4,none⟩=some (.slice (some ⟨g2,0,none⟩) N N)∧(w'.cell? ⟨g1,i * 7,none⟩=some u0∧w'.cell? ⟨g1,i * 7+1,none⟩=some u1∧w'.cell? ⟨g1,i * 7+2,none⟩=some u2∧w'.cell? ⟨g1,i * 7+3,none⟩=some u3∧w'.cell? ⟨g1,i * 7+4,none⟩=some u4∧w'.cell? ⟨g1,i * 7+5,none⟩=some u5∧w'.cell? ⟨g1,i * 7+6,none⟩=some u6)∧w'.cell? ⟨g2,i * 7,none⟩=some v0∧w'.cell? ⟨g2,i * 7+1,none⟩=some v1∧w'.cell? ⟨g2,i * 7+2,none⟩=some v2∧w'.cell? ⟨g2,i * 7+3,none⟩=some v3∧w'.cell? ⟨g2,i * 7+4,none⟩=some v4∧w'.cell? ⟨g2,i * 7+5,none⟩=some v5∧w'.cell? ⟨g2,i * 7+6,none⟩=some v6) (first | with_reducible exact HS9.out | go_keep) (first | (go_at_call 19;(with_reducible refine (HC.out _ HDr.out).mono ?_);rintro e w9 ⟨rfl,hb9⟩;have HB9:=Zh (HDr.out.trans (hb9.mono HDr.out.size));have HS9:=Zh (HKS.out _ HB9.out);clear hb9))
    all_goals (
     go_wp2_with fail
     exact⟨⟨i+1,by omega,by go_num,HBr.out.trans (HB9.out.mono HBr.out.size)⟩,by simp[intOf];omega⟩)
   ·have hie:i=N:=by omega
    subst hie
    have HF:Hid (Below W.heap.size W wr):=Zh (HW.out.trans (HBr.out.mono HW.out.size))
    have hib:decide ((i:Int) < (i:Int))=false:=by simp
    go_wp2_with fail
    go_ret
    exact⟨rfl,HF.out⟩
theorem nmC_at:∀(l:List NmP) (i:Nat) (hi:i < l.length),(nmC l)[i * 3]? = some (.string (S l[i].1))∧(nmC l)[i * 3+1]? = some (Zi (l[i].2.1:Int))∧(nmC l)[i * 3+2]? = some (Zi (l[i].2.2:Int))
 | [],i,hi=>absurd hi (Nat.not_lt_zero i)
 | a :: l,0,hi=>⟨rfl,rfl,rfl⟩
 | a :: l,i+1,hi=>by
  obtain⟨h0,h1,h2⟩:=nmC_at l i (Nat.lt_of_succ_lt_succ hi)
  refine⟨?_,?_,?_⟩
  ·rw[show (i+1) * 3=i * 3+1+1+1 by omega];exact h0
  ·rw[show (i+1) * 3+1=(i * 3+1)+1+1+1 by omega];exact h1
  ·rw[show (i+1) * 3+2=(i * 3+2)+1+1+1 by omega];exact h2
theorem nmC_len:∀l:List NmP,(nmC l).length=l.length * 3
 | []=>rfl
 | a :: l=>by
  show (nmC l).length+1+1+1=_
  rw[nmC_len l,List.length_cons]
  omega
theorem okNs_at {P:Nat→Prop} {W:World} {v:Value} {l:List NmP} (h:okNs P l v W) {i:Nat} (hi:i < l.length):∃g c,v=.slice (some ⟨g,0,none⟩) l.length c∧W.cell? ⟨g,i * 3,none⟩=some (.string (S l[i].1))∧W.cell? ⟨g,i * 3+1,none⟩=some (Zi (l[i].2.1:Int))∧W.cell? ⟨g,i * 3+2,none⟩=some (Zi (l[i].2.2:Int)):=by
 have h0:=h.1
 obtain⟨hl,⟨_,e⟩ | ⟨g,c,cur,rfl,_⟩⟩:=h.1
 ·omega
 ·refine⟨g,c,rfl,?_⟩
  obtain⟨k0,k1,k2⟩:=nmC_at l i hi
  have hlen:=nmC_len l
  exact⟨(World.ownsRow.cellAt h0 (i * 3) (by omega)).trans k0,(World.ownsRow.cellAt h0 (i * 3+1) (by omega)).trans k1,(World.ownsRow.cellAt h0 (i * 3+2) (by omega)).trans k2⟩
theorem own_len {W:World} {b T sz n:Nat} {v:Value} {xs:List Value} (h:W.ownsRow b T sz v n xs):n≤9223372036854775807:=by
 obtain⟨_,⟨_,e⟩ | ⟨g,c,cur,_,_,_,h4,h5,_⟩⟩:=h
 ·omega
 ·unfold maxLen at h5;omega
theorem same_n (w:World) (P Q:Nat→Prop) (v1 v2:Value) (ts:List NmP) (h1:okNs P ts v1 w) (h2:okNs Q ts v2 w) :
  Calls Tryz.prog 20 #[v1,v2,.bool true] w fun e w'=>e=.returned (.bool true)∧Below w.heap.size w w':=by
 have hl:=own_len h1.1
 obtain⟨a1,c1,rfl,_⟩:=own_slice h1.1
 obtain⟨a2,c2,rfl,_⟩:=own_slice h2.1
 obtain⟨n,hn⟩:=nm (ts.length)
 have H1:=Zh h1
 have H2:=Zh h2
 have HN:=Zh hn
 have hl9:n≤9223372036854775807:=by rw[hn];exact hl
 rw[← hn]
 clear h1 h2 hn hl
 go_enter Tryz.func20,Tryz.ntmps20
 go_wp2_with fail
 go_loopw[7] (fun x wr=>∃(i q:Nat),i≤n∧x=Zi (i:Int)∧wr=w.drewN q) (fun x _=>n - (intOf x).toNat)
 case atStart=>exact⟨0,0,Nat.zero_le _,rfl,rfl⟩
 case round=>
  obtain⟨i,q,hi,rfl,rfl⟩:=hrel
  by_cases hlt:i < n
  ·have hil:i < ts.length:=by have:=HN.out;omega
   obtain⟨g1,d1,e1,p0,p1,p2⟩:=okNs_at H1.out hil
   obtain⟨g2,d2,e2,q0,q1,q2⟩:=okNs_at H2.out hil
   simp only[Value.slice.injEq] at e1 e2
   obtain⟨rfl,_,rfl⟩:=e1
   obtain⟨rfl,_,rfl⟩:=e2
   generalize S ts[i].1=x0 at *
   generalize (ts[i].2.1:Int)=x1 at *
   generalize (ts[i].2.2:Int)=x2 at *
   have hq:=run_neSp x1 x2
   have hgd:=fun op a b=>run_guardSp op a b x1 x2
   have hib:decide ((i:Int) < (n:Int))=true:=by simp;omega
   go_wp2_with fail
   go_quiet (fail)
   go_wp2
   exact⟨⟨i+1,q+nq,by omega,by go_num,by first | rfl | trivial⟩,by simp[intOf];omega⟩
  ·have hie:i=n:=by omega
   subst hie
   have HF:Hid (Below w.heap.size w (w.drewN q)):=((Grew.refl w).drewN q).below
   have hib:decide ((i:Int) < (i:Int))=false:=by simp
   go_wp2_with fail
   go_ret
   exact⟨rfl,HF.out⟩
theorem sts_at {P:Nat→Prop} {W:World} : ∀{l:List St} {cs:List Value},StsC P W l cs→∀{i:Nat} (hi:i < l.length),∃vs,StsC P W [l[i]] vs∧∀j,j < 20→cs[i * 20+j]? = vs[j]?
 | _,_,.nil,i,hi=>absurd hi (Nat.not_lt_zero i)
 | _,_,.cons k nm x y body els p x0 x1 x2 x3 x4 x5 x6 y0 y1 y2 y3 y4 y5 y6 B E l cs h1 h2 h3 h4 h5,0,hi=>⟨_,.cons k nm x y body els p x0 x1 x2 x3 x4 x5 x6 y0 y1 y2 y3 y4 y5 y6 B E [] [] h1 h2 h3 h4 .nil,fun j hj=>by
   rw[Nat.zero_mul,Nat.zero_add]
   exact List.getElem?_append_left (l₁:=[_,_,_,_,_,_,_,_,_,_,_,_,_,_,_,_,_,_,_,_]) (l₂:=cs) hj⟩
 | _,_,.cons k nm x y body els p x0 x1 x2 x3 x4 x5 x6 y0 y1 y2 y3 y4 y5 y6 B E l cs h1 h2 h3 h4 h5,i+1,hi=>by
  obtain⟨vs,h,hc⟩:=sts_at h5 (i:=i) (Nat.lt_of_succ_lt_succ hi)
  refine⟨vs,h,fun j hj=>?_⟩
  rw[show (i+1) * 20+j=(i * 20+j)+1+1+1+1+1+1+1+1+1+1+1+1+1+1+1+1+1+1+1+1 by omega]
  exact hc j hj
theorem sts_one {P:Nat→Prop} {W:World} {k:Nat} {nm:List UInt8} {x y:Ex} {body els:List St} {p:Nat × Nat} {vs:List Value} (h:StsC P W [.mk k nm x y body els p] vs):∃x0 x1 x2 x3 x4 x5 x6 y0 y1 y2 y3 y4 y5 y6 B E,vs=[Zi (k:Int),.string (S nm),x0,x1,x2,x3,x4,x5,x6,y0,y1,y2,y3,y4,y5,y6,B,E,Zi (p.1:Int),Zi (p.2:Int)]∧okE P x (.agg #[x0,x1,x2,x3,x4,x5,x6]) W∧okE P y (.agg #[y0,y1,y2,y3,y4,y5,y6]) W∧RwS P W body B∧RwS P W els E:=by
 cases h with
 | cons _ _ _ _ _ _ _ x0 x1 x2 x3 x4 x5 x6 y0 y1 y2 y3 y4 y5 y6 B E _ cs h1 h2 h3 h4 h5=>
  cases h5
  exact⟨x0,x1,x2,x3,x4,x5,x6,y0,y1,y2,y3,y4,y5,y6,B,E,rfl,h1,h2,h3,h4⟩
theorem rws_at {P:Nat→Prop} {W:World} {l:List St} {v:Value} (h:RwS P W l v) {i:Nat} (hi:i < l.length):∃g c vs,v=.slice (some ⟨g,0,none⟩) l.length c∧StsC P W [l[i]] vs∧∀j u,vs[j]? = some u→W.cell? ⟨g,i * 20+j,none⟩=some u:=by
 cases h with
 | row v l cs h1 h2 h3=>
  have h0:=h1
  obtain⟨hl,⟨_,e⟩ | ⟨g,c,cur,rfl,_⟩⟩:=h1
  ·omega
  ·obtain⟨vs,hv,hc⟩:=sts_at h3 hi
   refine⟨g,c,vs,rfl,hv,fun j u hu=>?_⟩
   have hlen:=StsC.len hv
   have hj:j < 20:=by
    have:=(List.getElem?_eq_some_iff.mp hu).1
    simp only[List.length_cons,List.length_nil] at hlen
    omega
   have hln:=StsC.len h3
   exact ((World.ownsRow.cellAt h0 (i * 20+j) (by omega)).trans (hc j hj)).trans hu
theorem rws_len {P:Nat→Prop} {W:World} {l:List St} {v:Value} (h:RwS P W l v):l.length≤9223372036854775807:=by
 cases h with
 | row v l cs h1 h2 h3=>
  obtain⟨_,⟨_,e⟩ | ⟨g,c,cur,_,_,_,h4,h5,_⟩⟩:=h1
  ·omega
  ·unfold maxLen at h5;omega
def SameB (l:List St):Prop:=∀(W:World) (P Q:Nat→Prop) (va vb:Value),RwS P W l va→RwS Q W l vb→Calls Tryz.prog 21 #[va,vb,.bool true] W fun e w'=>e=.returned (.bool true)∧Below W.heap.size W w'
def KidS:St→Prop
 | .mk _ _ x y body els _=>BdE x∧BdE y∧SameB body∧SameB els
theorem same_b_of (l:List St) (hk:∀s,s∈l→KidS s):SameB l:=by
 intro w P Q va vb ha hb
 have hlm:=rws_len ha
 obtain⟨ao,ac,rfl⟩:=ha.slice
 obtain⟨bo,bc,rfl⟩:=hb.slice
 obtain⟨N,hN⟩:∃z,z=l.length:=⟨_,rfl⟩
 have HN:=Zh hN
 have hl9:N≤9223372036854775807:=by rw[hN];exact hlm
 have HA:Hid (∀U,Below w.heap.size w U→RwS P U l (.slice ao N ac)):=Zh fun U hU=>by rw[HN.out];exact ha.kept (fun _ q=>q) (fun k _ hk=>hU.block k hk)
 have HB:Hid (∀U,Below w.heap.size w U→RwS Q U l (.slice bo N bc)):=Zh fun U hU=>by rw[HN.out];exact hb.kept (fun _ q=>q) (fun k _ hk=>hU.block k hk)
 have HK:=Zh hk
 rw[← hN]
 clear ha hb hk hN hlm
 go_enter Tryz.func21,Tryz.ntmps21
 go_wp2_with fail
 go_loopw[7] (fun x wr=>∃(i:Nat),i≤N∧x=Zi (i:Int)∧Below w.heap.size w wr) (fun x _=>N - (intOf x).toNat)
 case atStart=>exact⟨0,Nat.zero_le _,rfl,Below.refl _ _⟩
 case round=>
  obtain⟨i,hi,rfl,hbr⟩:=hrel
  have HBr:=Zh hbr
  clear hbr
  by_cases hlt:i < N
  ·have hil:i < l.length:=by have:=HN.out;omega
   obtain⟨g1,d1,vs1,e1,st1,rg1⟩:=rws_at (HA.out wr HBr.out) hil
   obtain⟨g2,d2,vs2,e2,st2,rg2⟩:=rws_at (HB.out wr HBr.out) hil
   have hkd:=HK.out _ (List.getElem_mem hil)
   generalize l[i]=s0 at st1 st2 hkd
   obtain⟨k,nm,x,y,body,els,p⟩:=s0
   obtain⟨hbx,hby,hbb,hbe⟩:=hkd
   obtain⟨x0,x1,x2,x3,x4,x5,x6,y0,y1,y2,y3,y4,y5,y6,ba,ea,rfl,ax,ay,ab,ae⟩:=sts_one st1
   obtain⟨u0,u1,u2,u3,u4,u5,u6,v0,v1,v2,v3,v4,v5,v6,bb,eb,rfl,bx,by',bb',be'⟩:=sts_one st2
   obtain⟨xk,xo,xn,xl,xc,xs,xa,xq,xr,ex⟩:=okE_7 _ _ _ _ ax
   simp only[Value.agg.injEq,Array.mk.injEq,List.cons.injEq,and_true] at ex
   obtain⟨rfl,rfl,rfl,rfl,rfl,rfl,rfl⟩:=ex
   obtain⟨yk,yo,yn,yl,yc,ys,ya,yq,yr,ex⟩:=okE_7 _ _ _ _ ay
   simp only[Value.agg.injEq,Array.mk.injEq,List.cons.injEq,and_true] at ex
   obtain⟨rfl,rfl,rfl,rfl,rfl,rfl,rfl⟩:=ex
   obtain⟨uk,uo,un,ul,uc,us,ua,uq,ur,ex⟩:=okE_7 _ _ _ _ bx
   simp only[Value.agg.injEq,Array.mk.injEq,List.cons.injEq,and_true] at ex
   obtain⟨rfl,rfl,rfl,rfl,rfl,rfl,rfl⟩:=ex
   obtain⟨vk,vo,vn,vl,vc,vs,va,vq,vr,ex⟩:=okE_7 _ _ _ _ by'
   simp only[Value.agg.injEq,Array.mk.injEq,List.cons.injEq,and_true] at ex
   obtain⟨rfl,rfl,rfl,rfl,rfl,rfl,rfl⟩:=ex
   obtain⟨fa,fq,fr,rfl⟩:=okSs_s _ _ _ _ ab
   obtain⟨ga,gq,gr,rfl⟩:=okSs_s _ _ _ _ ae
   obtain⟨ha,hq,hr,rfl⟩:=okSs_s _ _ _ _ bb'
   obtain⟨ja,jq,jr,rfl⟩:=okSs_s _ _ _ _ be'
   simp only[Value.slice.injEq] at e1 e2
   have e11:=e1.1
   have e13:=e1.2.2
   have e21:=e2.1
   have e23:=e2.2.2
   clear e1 e2
   subst e11 e13 e21 e23
   generalize (k:Int)=ki at rg1 rg2
   generalize S nm=s at rg1 rg2
   generalize (p.1:Int)=lc at rg1 rg2
   generalize (p.2:Int)=cc at rg1 rg2
   obtain⟨uz,huz⟩:∃z,z=wr.alloc (.cells #[Zi 0,Ze,Zi 0,Zi 0,Zi 0,Ze,Zn,Zi 0,Zi 0,Zi 0,Zi 0,Zi 0,Ze,Zn,Zi 0,Zi 0,Zn,Zn,Zi 0,Zi 0] 117):=⟨_,rfl⟩
   obtain⟨w1,hw1⟩:∃z,z=wr.alloc (.cells #[Zi ki,.string s,Zi xk,Zi xo,Zi xn,.string xs,.slice xa xq xr,Zi xl,Zi xc,Zi yk,Zi yo,Zi yn,.string ys,.slice ya yq yr,Zi yl,Zi yc,.slice fa fq fr,.slice ga gq gr,Zi lc,Zi cc] 117):=⟨_,rfl⟩
   obtain⟨A1,hA1⟩:∃z,z=wr.heap.size:=⟨_,rfl⟩
   have hzz:uz.heap[A1]? = some (.cells #[Zi 0,Ze,Zi 0,Zi 0,Zi 0,Ze,Zn,Zi 0,Zi 0,Zi 0,Zi 0,Zi 0,Ze,Zn,Zi 0,Zi 0,Zn,Zn,Zi 0,Zi 0] 117 (0,0)):=by rw[huz,hA1];exact heap_alloc_new _ _ rfl
   have hW2:uz.setRow A1 #[Zi ki,.string s,Zi xk,Zi xo,Zi xn,.string xs,.slice xa xq xr,Zi xl,Zi xc,Zi yk,Zi yo,Zi yn,.string ys,.slice ya yq yr,Zi yl,Zi yc,.slice fa fq fr,.slice ga gq gr,Zi lc,Zi cc]=w1:=by rw[huz,hA1,hw1];exact World.setRow_alloc_new _ _ _ _
   have hb1:Below wr.heap.size wr w1:=by rw[hw1];exact bel_al _ _
   have k1:w1.heap[A1]? = some (.cells #[Zi ki,.string s,Zi xk,Zi xo,Zi xn,.string xs,.slice xa xq xr,Zi xl,Zi xc,Zi yk,Zi yo,Zi yn,.string ys,.slice ya yq yr,Zi yl,Zi yc,.slice fa fq fr,.slice ga gq gr,Zi lc,Zi cc] 117 (0,0)):=by rw[hw1,hA1];exact heap_alloc_new _ _ rfl
   obtain⟨uy,huy⟩:∃z,z=w1.alloc (.cells #[Zi 0,Ze,Zi 0,Zi 0,Zi 0,Ze,Zn,Zi 0,Zi 0,Zi 0,Zi 0,Zi 0,Ze,Zn,Zi 0,Zi 0,Zn,Zn,Zi 0,Zi 0] 117):=⟨_,rfl⟩
   obtain⟨w2,hw2⟩:∃z,z=w1.alloc (.cells #[Zi ki,.string s,Zi uk,Zi uo,Zi un,.string us,.slice ua uq ur,Zi ul,Zi uc,Zi vk,Zi vo,Zi vn,.string vs,.slice va vq vr,Zi vl,Zi vc,.slice ha hq hr,.slice ja jq jr,Zi lc,Zi cc] 117):=⟨_,rfl⟩
   obtain⟨A2,hA2⟩:∃z,z=w1.heap.size:=⟨_,rfl⟩
   have hyy:uy.heap[A2]? = some (.cells #[Zi 0,Ze,Zi 0,Zi 0,Zi 0,Ze,Zn,Zi 0,Zi 0,Zi 0,Zi 0,Zi 0,Ze,Zn,Zi 0,Zi 0,Zn,Zn,Zi 0,Zi 0] 117 (0,0)):=by rw[huy,hA2];exact heap_alloc_new _ _ rfl
   have hW3:uy.setRow A2 #[Zi ki,.string s,Zi uk,Zi uo,Zi un,.string us,.slice ua uq ur,Zi ul,Zi uc,Zi vk,Zi vo,Zi vn,.string vs,.slice va vq vr,Zi vl,Zi vc,.slice ha hq hr,.slice ja jq jr,Zi lc,Zi cc]=w2:=by rw[huy,hA2,hw2];exact World.setRow_alloc_new _ _ _ _
   have hb2:Below w1.heap.size w1 w2:=by rw[hw2];exact bel_al _ _
   have k2:w2.heap[A2]? = some (.cells #[Zi ki,.string s,Zi uk,Zi uo,Zi un,.string us,.slice ua uq ur,Zi ul,Zi uc,Zi vk,Zi vo,Zi vn,.string vs,.slice va vq vr,Zi vl,Zi vc,.slice ha hq hr,.slice ja jq jr,Zi lc,Zi cc] 117 (0,0)):=by rw[hw2,hA2];exact heap_alloc_new _ _ rfl
   have hb12:Below wr.heap.size wr w2:=hb1.trans (hb2.mono hb1.size)
   have HB12:=Zh hb12
   have HC1:Hid (∀U,Below w2.heap.size w2 U→U.cell? ⟨A1,0,none⟩=some (Zi ki)∧U.cell? ⟨A1,1,none⟩=some (.string s)∧U.cell? ⟨A1,2,none⟩=some (Zi xk)∧U.cell? ⟨A1,3,none⟩=some (Zi xo)∧U.cell? ⟨A1,4,none⟩=some (Zi xn)∧U.cell? ⟨A1,5,none⟩=some (.string xs)∧U.cell? ⟨A1,6,none⟩=some (.slice xa xq xr)∧U.cell? ⟨A1,7,none⟩=some (Zi xl)∧U.cell? ⟨A1,8,none⟩=some (Zi xc)∧U.cell? ⟨A1,9,none⟩=some (Zi yk)∧U.cell? ⟨A1,10,none⟩=some (Zi yo)∧U.cell? ⟨A1,11,none⟩=some (Zi yn)∧U.cell? ⟨A1,12,none⟩=some (.string ys)∧U.cell? ⟨A1,13,none⟩=some (.slice ya yq yr)∧U.cell? ⟨A1,14,none⟩=some (Zi yl)∧U.cell? ⟨A1,15,none⟩=some (Zi yc)∧U.cell? ⟨A1,16,none⟩=some (.slice fa fq fr)∧U.cell? ⟨A1,17,none⟩=some (.slice ga gq gr)∧U.cell? ⟨A1,18,none⟩=some (Zi lc)∧U.cell? ⟨A1,19,none⟩=some (Zi cc)):=Zh fun U hU=>by
    have q:=(hU.block _ (Nat.lt_of_lt_of_le (blk_lt k1) hb2.size)).trans ((hb2.block _ (blk_lt k1)).trans k1)
    refine⟨?_,?_,?_,?_,?_,?_,?_,?_,?_,?_,?_,?_,?_,?_,?_,?_,?_,?_,?_,?_⟩ <;> simp[World.cell?,q]
   have HC2:Hid (∀U,Below w2.heap.size w2 U→U.cell? ⟨A2,0,none⟩=some (Zi ki)∧U.cell? ⟨A2,1,none⟩=some (.string s)∧U.cell? ⟨A2,2,none⟩=some (Zi uk)∧U.cell? ⟨A2,3,none⟩=some (Zi uo)∧U.cell? ⟨A2,4,none⟩=some (Zi un)∧U.cell? ⟨A2,5,none⟩=some (.string us)∧U.cell? ⟨A2,6,none⟩=some (.slice ua uq ur)∧U.cell? ⟨A2,7,none⟩=some (Zi ul)∧U.cell? ⟨A2,8,none⟩=some (Zi uc)∧U.cell? ⟨A2,9,none⟩=some (Zi vk)∧U.cell? ⟨A2,10,none⟩=some (Zi vo)∧U.cell? ⟨A2,11,none⟩=some (Zi vn)∧U.cell? ⟨A2,12,none⟩=some (.string vs)∧U.cell? ⟨A2,13,none⟩=some (.slice va vq vr)∧U.cell? ⟨A2,14,none⟩=some (Zi vl)∧U.cell? ⟨A2,15,none⟩=some (Zi vc)∧U.cell? ⟨A2,16,none⟩=some (.slice ha hq hr)∧U.cell? ⟨A2,17,none⟩=some (.slice ja jq jr)∧U.cell? ⟨A2,18,none⟩=some (Zi lc)∧U.cell? ⟨A2,19,none⟩=some (Zi cc)):=Zh fun U hU=>by
    have q:=(hU.block _ (blk_lt k2)).trans k2
    refine⟨?_,?_,?_,?_,?_,?_,?_,?_,?_,?_,?_,?_,?_,?_,?_,?_,?_,?_,?_,?_⟩ <;> simp[World.cell?,q]
   have HX:Hid (∀U,Below w2.heap.size w2 U→Calls Tryz.prog 19 #[.agg #[Zi xk,Zi xo,Zi xn,.string xs,.slice xa xq xr,Zi xl,Zi xc],.agg #[Zi uk,Zi uo,Zi un,.string us,.slice ua uq ur,Zi ul,Zi uc],.bool true] U fun e w'=>e=.returned (.bool true)∧Below U.heap.size U w'):=Zh fun U hU=>by
    have h9:=hb12.trans (hU.mono hb12.size)
    exact same_e hbx U P Q _ _ (okE_f _ _ _ _ _ _ ax (fun _ q=>q) (fun k _ hk=>h9.block k hk)) (okE_f _ _ _ _ _ _ bx (fun _ q=>q) (fun k _ hk=>h9.block k hk))
   have HY:Hid (∀U,Below w2.heap.size w2 U→Calls Tryz.prog 19 #[.agg #[Zi yk,Zi yo,Zi yn,.string ys,.slice ya yq yr,Zi yl,Zi yc],.agg #[Zi vk,Zi vo,Zi vn,.string vs,.slice va vq vr,Zi vl,Zi vc],.bool true] U fun e w'=>e=.returned (.bool true)∧Below U.heap.size U w'):=Zh fun U hU=>by
    have h9:=hb12.trans (hU.mono hb12.size)
    exact same_e hby U P Q _ _ (okE_f _ _ _ _ _ _ ay (fun _ q=>q) (fun k _ hk=>h9.block k hk)) (okE_f _ _ _ _ _ _ by' (fun _ q=>q) (fun k _ hk=>h9.block k hk))
   have HSb:Hid (∀U,Below w2.heap.size w2 U→Calls Tryz.prog 21 #[.slice fa fq fr,.slice ha hq hr,.bool true] U fun e w'=>e=.returned (.bool true)∧Below U.heap.size U w'):=Zh fun U hU=>by
    have h9:=hb12.trans (hU.mono hb12.size)
    exact hbb U P Q _ _ (ab.kept (fun _ q=>q) (fun k _ hk=>h9.block k hk)) (bb'.kept (fun _ q=>q) (fun k _ hk=>h9.block k hk))
   have HSe:Hid (∀U,Below w2.heap.size w2 U→Calls Tryz.prog 21 #[.slice ga gq gr,.slice ja jq jr,.bool true] U fun e w'=>e=.returned (.bool true)∧Below U.heap.size U w'):=Zh fun U hU=>by
    have h9:=hb12.trans (hU.mono hb12.size)
    exact hbe U P Q _ _ (ae.kept (fun _ q=>q) (fun k _ hk=>h9.block k hk)) (be'.kept (fun _ q=>q) (fun k _ hk=>h9.block k hk))
   have hrg1:wr.rangeAt g1 (i * 20) [Zi ki,.string s,Zi xk,Zi xo,Zi xn,.string xs,.slice xa xq xr,Zi xl,Zi xc,Zi yk,Zi yo,Zi yn,.string ys,.slice ya yq yr,Zi yl,Zi yc,.slice fa fq fr,.slice ga gq gr,Zi lc,Zi cc]:=rg1
   have hrg2:w1.rangeAt g2 (i * 20) [Zi ki,.string s,Zi uk,Zi uo,Zi un,.string us,.slice ua uq ur,Zi ul,Zi uc,Zi vk,Zi vo,Zi vn,.string vs,.slice va vq vr,Zi vl,Zi vc,.slice ha hq hr,.slice ja jq jr,Zi lc,Zi cc]:=fun j u hu=>bel_cell hb1 (rg2 j u hu)
   have hsp:=run_neSp lc cc
   have hgd:=fun op a b=>run_guardSp op a b lc cc
   have hib:decide ((i:Int) < (N:Int))=true:=by simp;omega
   clear st1 st2 rg1 rg2 hb1 hb2 hb12 k1 k2 hbx hby hbb hbe ax ay ab ae bx by' bb' be' hw1 hw2
   go_upto_region 6 with fail
   go_upto_region 7 with (first | (refine wpList_load_mid rfl 117 _ rfl g1 (i * 20) rfl [Zi ki,.string s,Zi xk,Zi xo,Zi xn,.string xs,.slice xa xq xr,Zi xl,Zi xc,Zi yk,Zi yo,Zi yn,.string ys,.slice ya yq yr,Zi yl,Zi yc,.slice fa fq fr,.slice ga gq gr,Zi lc,Zi cc] _ hrg1 Tryz.underlying117 rfl (by kernel_rfl) ?_) | (rw[← huz,← hA1];refine wpList_store_row rfl 117 _ _ rfl A1 #[Zi ki,.string s,Zi xk,Zi xo,Zi xn,.string xs,.slice xa xq xr,Zi xl,Zi xc,Zi yk,Zi yo,Zi yn,.string ys,.slice ya yq yr,Zi yl,Zi yc,.slice fa fq fr,.slice ga gq gr,Zi lc,Zi cc] rfl rfl 117 _ hzz (by kernel_rfl) rfl (by kernel_rfl) ?_))
   rw[hW2]
   clear hW2 hzz huz hA1 hrg1
   go_upto_region 8 with (first | (refine wpList_load_mid rfl 117 _ rfl g2 (i * 20) rfl [Zi ki,.string s,Zi uk,Zi uo,Zi un,.string us,.slice ua uq ur,Zi ul,Zi uc,Zi vk,Zi vo,Zi vn,.string vs,.slice va vq vr,Zi vl,Zi vc,.slice ha hq hr,.slice ja jq jr,Zi lc,Zi cc] _ hrg2 Tryz.underlying117 rfl (by kernel_rfl) ?_) | (rw[← huy,← hA2];refine wpList_store_row rfl 117 _ _ rfl A2 #[Zi ki,.string s,Zi uk,Zi uo,Zi un,.string us,.slice ua uq ur,Zi ul,Zi uc,Zi vk,Zi vo,Zi vn,.string vs,.slice va vq vr,Zi vl,Zi vc,.slice ha hq hr,.slice ja jq jr,Zi lc,Zi cc] rfl rfl 117 _ hyy (by kernel_rfl) rfl (by kernel_rfl) ?_))
   rw[hW3]
   clear hW3 hyy huy hA2 hrg2
   obtain⟨a0,a1,a2,a3,a4,a5,a6,a7,a8,a9,a10,a11,a12,a13,a14,a15,a16,a17,a18,a19⟩:=HC1.out w2 (Below.refl _ _)
   obtain⟨b0,b1,b2,b3,b4,b5,b6,b7,b8,b9,b10,b11,b12,b13,b14,b15,b16,b17,b18,b19⟩:=HC2.out w2 (Below.refl _ _)
   clear a9 b9 a10 b10 a11 b11 a12 b12 a13 b13 a14 b14 a15 b15 a16 b16 a17 b17
   have h2:=HX.out w2 (Below.refl _ _)
   have HX2:=Zh h2
   clear h2
   go_wp2_with fail
   refine HX2.out.mono ?_
   rintro e w3 ⟨rfl,hb3⟩
   obtain⟨a0,a1,a2,a3,a4,a5,a6,a7,a8,a9,a10,a11,a12,a13,a14,a15,a16,a17,a18,a19⟩:=HC1.out w3 hb3
   obtain⟨b0,b1,b2,b3,b4,b5,b6,b7,b8,b9,b10,b11,b12,b13,b14,b15,b16,b17,b18,b19⟩:=HC2.out w3 hb3
   clear a0 b0 a1 b1 a2 b2 a3 b3 a4 b4 a5 b5 a6 b6 a7 b7 a8 b8 a16 b16 a17 b17 a18 b18 a19 b19
   have HY2:=Zh (HY.out w3 hb3)
   have HB3:=Zh hb3
   clear hb3
   go_wp2_with fail
   refine HY2.out.mono ?_
   rintro e w4 ⟨rfl,hb4⟩
   have hb4':=HB3.out.trans (hb4.mono HB3.out.size)
   obtain⟨a0,a1,a2,a3,a4,a5,a6,a7,a8,a9,a10,a11,a12,a13,a14,a15,a16,a17,a18,a19⟩:=HC1.out w4 hb4'
   obtain⟨b0,b1,b2,b3,b4,b5,b6,b7,b8,b9,b10,b11,b12,b13,b14,b15,b16,b17,b18,b19⟩:=HC2.out w4 hb4'
   clear a0 b0 a1 b1 a2 b2 a3 b3 a4 b4 a5 b5 a6 b6 a7 b7 a8 b8 a9 b9 a10 b10 a11 b11 a12 b12 a13 b13 a14 b14 a15 b15 a17 b17 a18 b18 a19 b19
   have HS4:=Zh (HSb.out w4 hb4')
   have HB4:=Zh hb4'
   clear hb4 hb4'
   go_wp2_with fail
   refine HS4.out.mono ?_
   rintro e w5 ⟨rfl,hb5⟩
   have hb5':=HB4.out.trans (hb5.mono HB4.out.size)
   obtain⟨a0,a1,a2,a3,a4,a5,a6,a7,a8,a9,a10,a11,a12,a13,a14,a15,a16,a17,a18,a19⟩:=HC1.out w5 hb5'
   obtain⟨b0,b1,b2,b3,b4,b5,b6,b7,b8,b9,b10,b11,b12,b13,b14,b15,b16,b17,b18,b19⟩:=HC2.out w5 hb5'
   clear a0 b0 a1 b1 a2 b2 a3 b3 a4 b4 a5 b5 a6 b6 a7 b7 a8 b8 a9 b9 a10 b10 a11 b11 a12 b12 a13 b13 a14 b14 a15 b15 a16 b16 a18 b18 a19 b19
   have HS5:=Zh (HSe.out w5 hb5')
   have HB5:=Zh hb5'
   clear hb5 hb5'
   go_wp2_with fail
   refine HS5.out.mono ?_
   rintro e w6 ⟨rfl,hb6⟩
   have HB6:=Zh (HB5.out.trans (hb6.mono HB5.out.size))
   clear hb6
   go_wp2_with fail
   have h12:=HBr.out.trans (HB12.out.mono HBr.out.size)
   have hre:∃j,j≤N∧Zi ((i:Int)+1)=Zi (j:Int)∧Below w.heap.size w w6:=⟨i+1,by omega,by go_num,h12.trans (HB6.out.mono h12.size)⟩
   refine⟨?_,?_⟩
   ·repeat refine⟨undef,?_⟩
    exact hre
   ·simp[intOf];omega
  ·have hie:i=N:=by omega
   subst hie
   have hib:decide ((i:Int) < (i:Int))=false:=by simp
   go_wp2_with fail
   go_ret
   exact⟨rfl,HBr.out⟩
inductive BdS:St→Prop where
 | mk (k:Nat) (nm:List UInt8) (x y:Ex) (body els:List St) (p:Nat × Nat):BdE x→BdE y→(∀s,s∈body→BdS s)→(∀s,s∈els→BdS s)→BdS (.mk k nm x y body els p)
theorem bds_kid {s:St} (h:BdS s):KidS s:=by
 induction h with
 | mk k nm x y body els p hx hy _ _ ihb ihe=>exact⟨hx,hy,same_b_of body ihb,same_b_of els ihe⟩
theorem same_b (l:List St) (hb:∀s,s∈l→BdS s):SameB l:=same_b_of l fun s hs=>bds_kid (hb s hs)
end Go.Proofs.YtlfooogmoigpfaaGreatDoor
