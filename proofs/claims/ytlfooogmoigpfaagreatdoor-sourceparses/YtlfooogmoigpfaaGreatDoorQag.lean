import Derived.Test.YtlfooogmoigpfaaGreatDoorQaf
import Derived.Test.YtlfooogmoigpfaaGreatDoorQad
import Derived.Test.YtlfooogmoigpfaaGreatDoorQaa
set_option maxRecDepth 100000
set_option maxHeartbeats 8000000
namespace Go.Proofs.YtlfooogmoigpfaaGreatDoor
open Go.RowKit Go.Sort Go.Shelf
theorem okE_cons {P:Nat→Prop} {W:World} {x:Ex} {a0 a1 a2 a3 a4 a5 a6:Value} {xs:List Ex} {cs:List Value} (h:okE P x (.agg #[a0,a1,a2,a3,a4,a5,a6]) W) (hc:ExsC P W xs cs):ExsC P W (x :: xs) (a0 :: a1 :: a2 :: a3 :: a4 :: a5 :: a6 :: cs):=by
 obtain⟨k,op,n,nm,args,p⟩:=x
 obtain⟨A,hv,ha⟩:=h
 simp only[Value.agg.injEq,Array.mk.injEq,List.cons.injEq,and_true] at hv
 obtain⟨rfl,rfl,rfl,rfl,rfl,rfl,rfl⟩:=hv
 exact .cons _ _ _ _ _ _ _ _ _ ha hc
theorem ArC_new {P P':Nat→Prop} {W:World} {xs:List Ex} {cs:List Value} (h:ExsC P W xs cs) (hp:∀k,P k→P' k) (hg:P' W.heap.size):ArC P' (W.alloc (.cells cs.toArray 66)) xs (.slice (some ⟨W.heap.size,0,none⟩) xs.length xs.length):=
 .row _ _ cs hg (heap_alloc_new _ _ rfl) (h.kept hp (fun k _ hl=>(bel_al W _).block k hl))
theorem res_finR {α:Type} {w W:World} {rb R:Nat} {r:List Tok} {en:Nat × Nat} {nest:Nat} {v:Value} {okv:(Nat→Prop)→α→Value→World→Prop} {P P':Nat→Prop} {x:α} {a0 a1 a2 a3 a4 a5 a6 z0 z1 z2 z3 z4 z5 z6:Value} {G:PR α} (hG:G=.ok x r) (hok:OkvF okv) (hR:w.heap.size≤R) (hrb:rb < w.heap.size) (ht:T1 rb w W) (hz:Row7 W R z0 z1 z2 z3 z4 z5 z6) (hx:okv P x (.agg #[a0,a1,a2,a3,a4,a5,a6]) W) (hP:∀k,P k→P' k) (hn:∀k,P k→k≠R) (hr:RdB W rb r en nest v) :
  Row7 (put7 W R a0 a1 a2 a3 a4 a5 a6) R a0 a1 a2 a3 a4 a5 a6∧PrP w rb en nest G (okv P') (.returned (.agg #[a0,a1,a2,a3,a4,a5,a6])) (put7 W R a0 a1 a2 a3 a4 a5 a6):=by
 subst hG
 have hp:Below w.heap.size W (put7 W R a0 a1 a2 a3 a4 a5 a6):=put7_below (Below.refl _ _) hR _ _ _ _ _ _ _
 refine⟨hz.put _ _ _ _ _ _ _,_,_,rfl,?_,hr.low hp hrb,ht.low hp⟩
 refine hok _ _ _ _ _ _ hx hP (fun k hk hlt=>?_)
 have hk1:=hn k hk
 simp only[put7]
 rw[heap_setCell_other _ _ _ _ hk1,heap_setCell_other _ _ _ _ hk1,heap_setCell_other _ _ _ _ hk1,heap_setCell_other _ _ _ _ hk1,heap_setCell_other _ _ _ _ hk1,heap_setCell_other _ _ _ _ hk1,heap_setCell_other _ _ _ _ hk1]
theorem cellN (w:World) (cs:Array Value) (T:TypeId) (j:Nat) (v:Value) (h:cs[j]? = some v):(w.alloc (.cells cs T)).cell? ⟨w.heap.size,j,none⟩=some v:=by
 rw[World.cell?,heap_alloc_new _ _ rfl]
 simpa using h
structure Ch (W:World) (rb rc wc pw pr px pa:Nat) (p:Nat × Nat) (a0 a1 a2 a3 a4 a5 a6:Value):Prop where
 cw:W.cell? ⟨pw,0,none⟩=some (whV rc wc)
 cr:W.cell? ⟨pr,0,none⟩=some (Zp rb)
 cx:Row7 W px a0 a1 a2 a3 a4 a5 a6
 ca:W.cell? ⟨pa,0,none⟩=some (Zi (p.1:Int))∧W.cell? ⟨pa,1,none⟩=some (Zi (p.2:Int))
 ne:pw≠rb∧pr≠rb∧px≠rb∧pa≠rb
theorem Ch.t1 {W W':World} {rb rc wc pw pr px pa:Nat} {p:Nat × Nat} {a0 a1 a2 a3 a4 a5 a6:Value} (h:Ch W rb rc wc pw pr px pa p a0 a1 a2 a3 a4 a5 a6) (ht:T1 rb W W'):Ch W' rb rc wc pw pr px pa p a0 a1 a2 a3 a4 a5 a6:=
 ⟨ht.cell h.cw h.ne.1,ht.cell h.cr h.ne.2.1,h.cx.t1 ht h.ne.2.2.1,⟨ht.cell h.ca.1 h.ne.2.2.2,ht.cell h.ca.2 h.ne.2.2.2⟩,h.ne⟩
def pCI (en:Nat × Nat) (f ns:Nat) (x:Ex) (p:Nat × Nat) (r1:List Tok):PR Ex:=(pWh en f ns r1).bind fun y r2=>(pMust en [58] r2).bind fun _ r3=>(pWh en f ns r3).bind fun z r4=>.ok (.mk 10 0 0 [] [x,y,z] p) r4
theorem choiceI_any {rb rc wc:Nat} {en:Nat × Nat} {f:Nat} (hW:CW rb rc wc en f) (w:World) (pw pr px pa:Nat) (p:Nat × Nat) (Q:Nat→Prop) (x:Ex) (a0 a1 a2 a3 a4 a5 a6:Value) (ts:List Tok) (nest:Nat) (v:Value) (hr:RdB w rb ts en nest v) (hn:nest≤200) (he:Env w rb rc wc) (hc:Ch w rb rc wc pw pr px pa p a0 a1 a2 a3 a4 a5 a6) (hx:okE Q x (.agg #[a0,a1,a2,a3,a4,a5,a6]) w) (hQ:∀k,Q k→k < w.heap.size∧k≠rb) (hne:pCI en f nest x p ts≠.er (0,0) 0) :
  Calls Tryz.prog 132 #[Zp pw,Zp pr,Zp px,Zp pa] w (PrP w rb en nest (pCI en f nest x p ts) (okE (New Q w.heap.size))):=by
 obtain⟨W1,hW1⟩:=nm (w.alloc (.cells #[Zi 0,Zi 0,Zi 0,Ze,Zn,Zi 0,Zi 0] 66))
 have hb1:Below w.heap.size w W1:=by rw[hW1];exact bel_al _ _
 have hs1:FS w W1 rb rc wc ts en nest v:=(FS.start hr he).bel hb1
 have hz1:z7 W1 w.heap.size:=by rw[hW1];exact Row7.al _ _ _ _ _ _ _ _
 have hc1:=hc.t1 (T1.bel hb1:T1 rb w W1)
 obtain⟨G,hG⟩:=nm (pCI en f nest x p ts)
 rw[← hG] at hne ⊢
 unfold pCI at hG
 have hp1:pWh en f nest ts≠.er (0,0) 0:=fun h=>hne (by rw[hG,h];rfl)
 have HJ:=Zh (hW W1 ts nest v hs1.rd hn hs1.env hp1)
 have HX:=Zh (okE_bel hx hb1)
 generalize pWh en f nest ts=R at *
 have HG:=Zh hG
 have HS:=Zh hs1
 have HZ:=Zh hz1
 have HNe:=Zh hne
 have HW:=Zh hW
 have HQ:=Zh hQ
 have HC:=Zh hc1
 have c1:=hc1.cw
 have HWs:Hid (w.heap.size < W1.heap.size):=blk_lt hz1
 clear hG hs1 hz1 hne hr he hW hc1 hc hx hQ hp1 hb1
 go_enter Tryz.func132,Tryz.ntmps132
 go_upto_region 1 with fail
 rw[← hW1]
 clear hW1
 go_wp2_with fail
 refine HJ.out.mono ?_
 clear HJ c1
 cases R with
 | er p x=>
  rintro e w3 ⟨rfl,ht⟩
  exact⟨rfl,er_fin HG.out (HS.out.t1.trans ht)⟩
 | ok y r2=>
  rintro e w3 ⟨yv,v2,rfl,hy,hr3,ht⟩
  obtain⟨yk,yo,yn,yl,yc,ys,yao,yq,yqc,rfl⟩:=okE_7 _ _ _ _ hy
  have hs3:=HS.out.call ht hr3
  have hz3:=HZ.out.t1 ht (by have:=hs3.lt;omega)
  have hx3:=okE_t1 HX.out ht (fun k hk=>(HQ.out k hk).2)
  have hc3:=HC.out.t1 ht
  obtain⟨B,hB⟩:=nm (w3.heap.size)
  obtain⟨w4,hw4⟩:=nm (w3.alloc (.cells #[Zi yk,Zi yo,Zi yn,.string ys,.slice yao yq yqc,Zi yl,Zi yc] 66))
  have hb4:Below w3.heap.size w3 w4:=by rw[hw4];exact bel_al _ _
  have hB4:Row7 w4 B (Zi yk) (Zi yo) (Zi yn) (.string ys) (.slice yao yq yqc) (Zi yl) (Zi yc):=by rw[hw4,hB];exact Row7.al _ _ _ _ _ _ _ _
  have HS4:=Zh (hs3.bel hb4)
  have HZ4:=Zh (hz3.kept hb4)
  have HX4:=Zh (okE_bel hx3 hb4)
  have HC4:=Zh (hc3.t1 (T1.bel hb4))
  have HY4:=Zh (okE_mono (P':=fun k=>W1.heap.size≤k∧k < B) (okE_bel (okE_lt hy) hb4) (fun k hk _=>by
   obtain⟨h1,h2⟩:=hk
   rcases h1 with h1 | h1
   ·exact h1.elim
   ·exact⟨h1,by omega⟩))
  have HBg:Hid (W1.heap.size≤B∧rb < w.heap.size):=Zh ⟨by rw[hB];exact ht.size,hs3.lt⟩
  have HB4:=Zh hB4
  have HM:=must_any w4 rb r2 en nest v2 [58] (by decide) HS4.out.rd
  have hg:=HG.out
  rw[PR.bind_ok] at hg
  generalize pMust en [58] r2=M at *
  have HM:Hid (Calls Tryz.prog 46 #[Zp rb,.string ⟨#[58]⟩] w4 (PrP w4 rb en nest M fun _ v _=>v=.tuple #[])):=Zh HM
  have HG2:=Zh hg
  have c1:=HC4.out.cr
  clear hy hr3 ht hs3 hz3 hb4 hB4 hx3 hc3 HS HZ HX HC HG hg
  go_upto_region 2 with fail
  rw[← hw4,← hB]
  clear hw4 hB
  go_wp2_with fail
  refine HM.out.mono ?_
  clear HM c1
  cases M with
  | er p x=>
   rintro e w5 ⟨rfl,ht⟩
   exact⟨rfl,er_fin HG2.out (HS4.out.t1.trans ht)⟩
  | ok u r3=>
   rintro e w5 ⟨_,v3,rfl,rfl,hr5,ht⟩
   have HS5:=Zh (HS4.out.call ht hr5)
   have HZ5:=Zh (HZ4.out.t1 ht (by have:=HBg.out;omega))
   have HX5:=Zh (okE_t1 HX4.out ht (fun k hk=>(HQ.out k hk).2))
   have HC5:=Zh (HC4.out.t1 ht)
   have HY5:=Zh (okE_t1 HY4.out ht (fun k hk=>by have:=HBg.out;have:=HWs.out;omega))
   have HB5:=Zh (HB4.out.t1 ht (by have:=HBg.out;have:=HWs.out;omega))
   have hg:=HG2.out
   rw[PR.bind_ok] at hg
   have hp1:pWh en f nest r3≠.er (0,0) 0:=fun h=>HNe.out (by rw[hg,h];rfl)
   have HJ:=Zh (HW.out w5 r3 nest v3 HS5.out.rd hn HS5.out.env hp1)
   generalize pWh en f nest r3=R at *
   have HG3:=Zh hg
   have c1:=HC5.out.cw
   have HB5w:Hid (B < w5.heap.size∧w4.heap.size≤w5.heap.size):=Zh ⟨blk_lt HB5.out,ht.size⟩
   clear hr5 ht hp1 hg HS4 HZ4 HX4 HC4 HY4 HB4 HG2
   go_wp2_with fail
   refine HJ.out.mono ?_
   clear HJ c1
   cases R with
   | er p x=>
    rintro e w6 ⟨rfl,ht⟩
    exact⟨rfl,er_fin HG3.out (HS5.out.t1.trans ht)⟩
   | ok z r4=>
    rintro e w6 ⟨zv,v4,rfl,hz,hr6,ht⟩
    obtain⟨zk,zo,zn,zl,zc,zs,zao,zq,zqc,rfl⟩:=okE_7 _ _ _ _ hz
    have hs6:=HS5.out.call ht hr6
    obtain⟨B2,hB2⟩:=nm (w6.heap.size)
    obtain⟨w7,hw7⟩:=nm (w6.alloc (.cells #[Zi zk,Zi zo,Zi zn,.string zs,.slice zao zq zqc,Zi zl,Zi zc] 66))
    have hb7:Below w6.heap.size w6 w7:=by rw[hw7];exact bel_al _ _
    have ht7:T1 rb w5 w7:=ht.trans (T1.bel hb7)
    have hB7:Row7 w7 B2 (Zi zk) (Zi zo) (Zi zn) (.string zs) (.slice zao zq zqc) (Zi zl) (Zi zc):=by rw[hw7,hB2];exact Row7.al _ _ _ _ _ _ _ _
    have hs7:=hs6.bel hb7
    have hz7:=HZ5.out.t1 ht7 (by have:=HBg.out;omega)
    have hc7:=HC5.out.t1 ht7
    have hbb:=HB5.out.t1 ht7 (by have:=HBg.out;have:=HWs.out;omega)
    have hx7:=okE_t1 HX5.out ht7 (fun k hk=>(HQ.out k hk).2)
    have hy7:=okE_t1 HY5.out ht7 (fun k hk=>by have:=HBg.out;have:=HWs.out;omega)
    have hzz:=okE_bel (okE_lt hz) hb7
    have hP:∀k,ltB (New noB w5.heap.size) w6.heap.size k→W1.heap.size≤k∧k < w7.heap.size:=fun k hk=>by
     obtain⟨h1,h2⟩:=hk
     have h3:=HBg.out
     have h4:=HB5w.out
     have h5:=hb7.size
     rcases h1 with h1 | h1
     ·exact h1.elim
     ·exact⟨by omega,by omega⟩
    have hrow:ExsC (fun k=>Q k∨(W1.heap.size≤k∧k < w7.heap.size)) w7 [x,y,z] [a0,a1,a2,a3,a4,a5,a6,Zi yk,Zi yo,Zi yn,.string ys,.slice yao yq yqc,Zi yl,Zi yc,Zi zk,Zi zo,Zi zn,.string zs,.slice zao zq zqc,Zi zl,Zi zc]:=
     okE_cons (okE_mono hx7 (fun k hk _=>.inl hk)) (okE_cons (okE_mono hy7 (fun k hk hl=>.inr ⟨hk.1,hl⟩)) (okE_cons (okE_mono hzz (fun k hk _=>.inr (hP k hk))) .nil))
    obtain⟨w8,hw8⟩:=nm (w7.alloc (.cells #[a0,a1,a2,a3,a4,a5,a6,Zi yk,Zi yo,Zi yn,.string ys,.slice yao yq yqc,Zi yl,Zi yc,Zi zk,Zi zo,Zi zn,.string zs,.slice zao zq zqc,Zi zl,Zi zc] 66))
    have hb8:Below w7.heap.size w7 w8:=by rw[hw8];exact bel_al _ _
    have har:ArC (fun k=>Q k∨W1.heap.size≤k) w8 [x,y,z] (.slice (some ⟨w7.heap.size,0,none⟩) 3 3):=by
     rw[hw8]
     exact ArC_new hrow (fun k hk=>hk.imp id (fun h=>h.1)) (.inr (by have:=hs7.t1.size;have:=HBg.out;have:=HB5w.out;have:=hb7.size;have:=ht.size;omega))
    have hz8:=hz7.kept hb8
    have hs8:=hs7.bel hb8
    have HF:=Zh (res_fin HG3.out okE_f HBg.out.2 hs8.t1 hz8 (⟨_,rfl,har⟩:okE _ (.mk 10 0 0 [] [x,y,z] p) (.agg #[Zi 10,Zi 0,Zi 0,Ze,.slice (some ⟨w7.heap.size,0,none⟩) 3 3,Zi (p.1:Int),Zi (p.2:Int)]) w8) (P':=New Q w.heap.size) (fun k hk=>hk.imp id (fun h=>by have:=HWs.out;omega)) (fun k hk=>by
     have:=HWs.out
     rcases hk with hk | hk
     ·have:=(HQ.out k hk).1;omega
     ·omega) hs8.rd)
    obtain⟨_,f0,f1,f2,f3,f4,f5,f6⟩:=hz8.cells
    obtain⟨⟨x0,x1,x2,x3,x4,x5,x6⟩,_⟩:=hc7.cx.cells
    obtain⟨⟨y0,y1,y2,y3,y4,y5,y6⟩,_⟩:=hbb.cells
    obtain⟨⟨z0,z1,z2,z3,z4,z5,z6⟩,_⟩:=hB7.cells
    have hc8:=hc7.t1 (T1.bel hb8:T1 rb w7 w8)
    obtain⟨p0,p1⟩:=hc8.ca
    clear hz hr6 ht hs6 hb7 ht7 hB7 hs7 hz7 hc7 hbb hx7 hy7 hzz hP hrow har hz8 hs8 hc8 hb8 HG3 HS5 HZ5 HX5 HC5 HY5 HB5 HB5w HBg HWs HQ HNe HW
    subst hw8
    go_upto_region 4 with fail
    rw[← hw7,← hB2]
    clear hw7 hB2
    go_wp2_with fail
    obtain⟨⟨d0,d1,d2,d3,d4,d5,d6⟩,_⟩:=HF.out.1.cells
    exact bodyPost_ret (v:=.agg #[Zi 10,Zi 0,Zi 0,Ze,.slice (some ⟨w7.heap.size,0,none⟩) 3 3,Zi (p.1:Int),Zi (p.2:Int)]) (by simp[results,Tryz.results132,go_sem,d0,d1,d2,d3,d4,d5,d6]) rfl HF.out.2
theorem choice_any {rb rc wc:Nat} {en:Nat × Nat} {f:Nat} (hW:CW rb rc wc en f):CC rb rc wc en f:=by
 intro w Q x xv ts nest v hr hts hn he hx hQ hne
 obtain⟨k,o,n,l,c,s,ao,q,qc,rfl⟩:=okE_7 _ _ _ _ hx
 obtain⟨wa,hwa⟩:=nm (w.alloc (.cells #[Zp rb] 101))
 obtain⟨wb,hwb⟩:=nm (wa.alloc (.cells #[Zi k,Zi o,Zi n,.string s,.slice ao q qc,Zi l,Zi c] 66))
 obtain⟨wd,hwd⟩:=nm (wb.alloc (.cells #[whV rc wc] 91))
 obtain⟨W1,hW1⟩:=nm (wd.alloc (.cells #[Zi 0,Zi 0,Zi 0,Ze,Zn,Zi 0,Zi 0] 66))
 have sa:wa.heap.size=w.heap.size+1:=by rw[hwa];simp
 have sb:wb.heap.size=w.heap.size+1+1:=by rw[hwb];simp[sa]
 have sd:wd.heap.size=w.heap.size+1+1+1:=by rw[hwd];simp[sb]
 have ba:Below w.heap.size w wa:=by rw[hwa];exact bel_al _ _
 have bb:Below wa.heap.size wa wb:=by rw[hwb];exact bel_al _ _
 have bd:Below wb.heap.size wb wd:=by rw[hwd];exact bel_al _ _
 have b1:Below wd.heap.size wd W1:=by rw[hW1];exact bel_al _ _
 have bd1:Below wb.heap.size wb W1:=bd.trans (b1.mono bd.size)
 have bb1:Below wa.heap.size wa W1:=bb.trans (bd1.mono bb.size)
 have ba1:Below w.heap.size w W1:=ba.trans (bb1.mono ba.size)
 have kr:W1.cell? ⟨w.heap.size,0,none⟩=some (Zp rb):=(bb1.cell (p:=⟨w.heap.size,0,none⟩) (by show w.heap.size < wa.heap.size;omega)).trans (by rw[hwa];exact cellN _ _ _ 0 _ rfl)
 have kx:Row7 W1 (w.heap.size+1) (Zi k) (Zi o) (Zi n) (.string s) (.slice ao q qc) (Zi l) (Zi c):=by
  have h:Row7 wb (w.heap.size+1) (Zi k) (Zi o) (Zi n) (.string s) (.slice ao q qc) (Zi l) (Zi c):=by rw[hwb,← sa];exact Row7.al _ _ _ _ _ _ _ _
  exact h.kept bd1
 have kw:W1.cell? ⟨w.heap.size+1+1,0,none⟩=some (whV rc wc):=(b1.cell (p:=⟨w.heap.size+1+1,0,none⟩) (by show w.heap.size+1+1 < wd.heap.size;omega)).trans (by rw[hwd,← sb];exact cellN _ _ _ 0 _ rfl)
 have hz1:z7 W1 (w.heap.size+1+1+1):=by rw[hW1,← sd];exact Row7.al _ _ _ _ _ _ _ _
 have hs1:FS w W1 rb rc wc ts en nest v:=(FS.start hr he).bel ba1
 have hx1:=okE_bel hx ba1
 obtain⟨G,hG⟩:=nm (pCh en f nest x ts)
 rw[← hG] at hne ⊢
 have HN:=next_any W1 rb ts en nest v hs1.rd
 unfold pCh at hG
 have hO:=fun (U:World) (p:Nat × Nat) (hp:p=nxtP en ts) (pa:Nat) (hU:FS w U rb rc wc ts en nest v) (hcU:Ch U rb rc wc (w.heap.size+1+1) w.heap.size (w.heap.size+1) pa p (Zi k) (Zi o) (Zi n) (.string s) (.slice ao q qc) (Zi l) (Zi c)) (hxU:okE Q x (.agg #[Zi k,Zi o,Zi n,.string s,.slice ao q qc,Zi l,Zi c]) U)=>
  openedE_any U rb ts en nest v hU.rd hts hn 132 (enters_of Tryz.func132 (by kernel_rfl) rfl) #[] #[.pointer (some ⟨w.heap.size+1+1,0,none⟩),.pointer (some ⟨w.heap.size,0,none⟩),.pointer (some ⟨w.heap.size+1,0,none⟩),Zp pa] (fun ns r1=>pCI en f ns x p r1) okE Q (fun k hk=>⟨Nat.lt_of_lt_of_le (hQ k hk).1 hU.ge,(hQ k hk).2⟩) okE_f okE_7
   (fun hn2 V v' hV hrV=>choiceI_any hW V _ _ _ _ p Q x _ _ _ _ _ _ _ ts.tail (nest+1) v' hrV (by omega) (hU.env.t1 hV) (hcU.t1 hV) (okE_t1 hxU hV (fun k hk=>(hQ k hk).2)) (fun k hk=>⟨Nat.lt_of_lt_of_le (hQ k hk).1 (Nat.le_trans hU.ge hV.size),(hQ k hk).2⟩) (fun h=>hne (by
    rw[hG]
    unfold pOpen
    rw[if_neg hn2]
    rw[hp] at h
    exact h)))
 have hG2:G=pOpen en nest ts (fun ns r1=>pCI en f ns x (nxtP en ts) r1):=hG
 generalize nxtP en ts=p at *
 obtain⟨pl,pc⟩:=p
 generalize nxtN ts=nv at *
 generalize nxtT ts=tx at *
 generalize nxtK ts=kd at *
 have HN:Hid (Calls Tryz.prog 106 #[Zp rb] W1 fun e w'=>e=.returned (.agg #[Zi (kd:Int),.string (S tx),Zi nv,Zi (pl:Int),Zi (pc:Int)])∧Below W1.heap.size W1 w'):=Zh HN
 have hfl:∀w:World,(Instr.field 83 (.agg #[Zi (kd:Int),.string (S tx),Zi nv,Zi (pl:Int),Zi (pc:Int)]) 3).run Tryz.prog w=.ok (.agg #[Zi (pl:Int),Zi (pc:Int)]) w:=fun _=>by kernel_rfl
 have HO:=Zh (fun U=>hO U (pl,pc) rfl)
 have HS:=Zh hs1
 have HZ:=Zh hz1
 have HX:=Zh hx1
 have HKx:=Zh kx
 have HKr:=Zh kr
 have HKw:=Zh kw
 have HQ:=Zh hQ
 have HG:=Zh hG2
 have HLt:Hid (rb < w.heap.size):=hs1.lt
 clear hO hs1 hz1 hx1 kx kw hr he hx hQ hne hG hG2 ba bb bd b1 bd1 bb1 ba1 sa sb sd hts
 go_enter Tryz.func109,Tryz.ntmps109
 go_upto_region 1 with fail
 rw[← hwa,← hwb,← hwd,← hW1]
 clear hwa hwb hwd hW1
 go_wp2_with fail
 refine HN.out.mono ?_
 clear HN
 rintro e w2 ⟨rfl,hb⟩
 obtain⟨w3,hw3⟩:=nm (w2.alloc (.cells #[Zi (pl:Int),Zi (pc:Int)] 43))
 obtain⟨B,hB⟩:=nm (w2.heap.size)
 have hb3:Below w2.heap.size w2 w3:=by rw[hw3];exact bel_al _ _
 have hb13:=hb.trans (hb3.mono hb.size)
 have ca0:w3.cell? ⟨B,0,none⟩=some (Zi (pl:Int)):=by rw[hw3,hB];exact cellN _ _ _ 0 _ rfl
 have ca1:w3.cell? ⟨B,1,none⟩=some (Zi (pc:Int)):=by rw[hw3,hB];exact cellN _ _ _ 1 _ rfl
 have hs3:=HS.out.bel hb13
 have hkr:=(hb13.cell (cell_lt HKr.out)).trans HKr.out
 have hkw:=(hb13.cell (cell_lt HKw.out)).trans HKw.out
 have hch:Ch w3 rb rc wc (w.heap.size+1+1) w.heap.size (w.heap.size+1) B (pl,pc) (Zi k) (Zi o) (Zi n) (.string s) (.slice ao q qc) (Zi l) (Zi c):=
  ⟨hkw,hkr,HKx.out.kept hb13,⟨ca0,ca1⟩,by have:=HLt.out;omega,by have:=HLt.out;omega,by have:=HLt.out;omega,by have:=HLt.out;have:=HS.out.ge;have:=hb.size;omega⟩
 have HO3:=Zh (HO.out w3 B hs3 hch (okE_bel HX.out hb13))
 have HZ3:=Zh (HZ.out.kept hb13)
 have HT3:=Zh hs3.t1
 clear hb hb3 hb13 ca0 ca1 hs3 hkw hch HO HS HX HKr HKw HKx HZ kr
 go_upto_region 2 with fail
 rw[← hw3,← hB]
 clear hw3 hB hfl
 go_wp2_with fail
 refine HO3.out.mono ?_
 clear HO3
 have hg:=HG.out
 rw[← hg]
 clear hg HG
 cases G with
 | er p x=>
  rintro e w6 ⟨rfl,ht⟩
  exact⟨rfl,er_fin rfl (HT3.out.trans ht)⟩
 | ok y r3=>
  rintro e w6 ⟨yv,v3,rfl,hy,hr6,ht⟩
  obtain⟨k,o,n,l,c,s,ao,q,qc,rfl⟩:=okE_7 _ _ _ _ hy
  have hz6:=HZ3.out.t1 ht (by have:=HLt.out;omega)
  have h9:=blk_lt HZ3.out
  have HF:=Zh (res_finR rfl okE_f (by omega) HLt.out (HT3.out.trans ht) hz6 hy (P':=New Q w.heap.size) (fun k hk=>hk.imp id (fun h=>by have:=HT3.out.size;omega)) (fun k hk=>by
     rcases hk with hk | hk
     ·have:=(HQ.out k hk).1;omega
     ·omega) hr6)
  obtain⟨_,y0,y1,y2,y3,y4,y5,y6⟩:=hz6.cells
  clear hy hr6 ht hz6 HZ3 HT3 HQ h9
  go_wp2_with fail
  obtain⟨⟨d0,d1,d2,d3,d4,d5,d6⟩,_⟩:=HF.out.1.cells
  exact bodyPost_ret (v:=.agg #[Zi k,Zi o,Zi n,.string s,.slice ao q qc,Zi l,Zi c]) (by simp[results,Tryz.results109,go_sem,d0,d1,d2,d3,d4,d5,d6]) rfl HF.out.2
end Go.Proofs.YtlfooogmoigpfaaGreatDoor
namespace Go.Proofs.YtlfooogmoigpfaaGreatDoor
def Shr {α:Type} (n:Nat) (R:PR α):Prop:=match R with
 | .ok _ r=>r.length≤n
 | .er _ _=>True
theorem Shr.bind {α β:Type} {n m:Nat} {a:PR α} {f:α→List Tok→PR β} (h:Shr n a) (hf:∀x r,r.length≤n→Shr m (f x r)):Shr m (a.bind f):=by
 cases a with
 | ok x r=>exact hf x r h
 | er p e=>trivial
theorem Shr.ok {α:Type} {n:Nat} {R:PR α} {x:α} {r:List Tok} (h:Shr n R) (he:R=.ok x r):r.length≤n:=by subst he;exact h
theorem must_shr {en:Nat × Nat} {s:List UInt8} {ts:List Tok} {n:Nat} (hn:ts.length≤n):Shr n (pMust en s ts):=by
 unfold pMust
 split
 ·show ts.tail.length≤n
  rw[List.length_tail];omega
 ·trivial
theorem name_shr {en:Nat × Nat} {ts:List Tok} {n:Nat} (hn:ts.length≤n):Shr n (pName en ts):=by
 unfold pName
 split
 ·show ts.tail.length≤n
  rw[List.length_tail];omega
 ·trivial
theorem open_shr {α:Type} {en:Nat × Nat} {nest:Nat} {ts:List Tok} {n:Nat} {inner:Nat→List Tok→PR α} (h:Shr n (inner (nest+1) ts.tail)):Shr n (pOpen en nest ts inner):=by
 unfold pOpen
 split
 ·trivial
 ·exact h
theorem br_shr {α:Type} {en:Nat × Nat} {nest:Nat} {s1 s2:List UInt8} {ts:List Tok} {n:Nat} {inner:Nat→List Tok→PR α} (h:Shr n (inner (nest+1) ts.tail)):Shr n (pBr en nest s1 s2 ts inner):=by
 unfold pBr
 split
 ·exact (open_shr h).bind fun x r hr=>(must_shr hr).bind fun _ r2 h2=>h2
 ·trivial
theorem tail_le {ts:List Tok} {n:Nat} (h:ts.length≤n):ts.tail.length≤n:=by rw[List.length_tail];omega
theorem shr_all (en:Nat × Nat):∀f,(∀nest ts n,ts.length≤n→Shr n (pWh en f nest ts))∧(∀rank nest ts n,ts.length≤n→Shr n (pJo en f rank nest ts))∧(∀rank nest x ts n,ts.length≤n→Shr n (pLo en f rank nest x ts))∧(∀nest ts n,ts.length≤n→Shr n (pUn en f nest ts))∧(∀nest ts n,ts.length≤n→Shr n (pPr en f nest ts)):=by
 intro f
 induction f with
 | zero=>exact⟨fun _ _ _ _=>by simp only[pWh];trivial,fun _ _ _ _ _=>by simp only[pJo];trivial,fun _ _ _ _ _ _=>by simp only[pLo];trivial,fun _ _ _ _=>by simp only[pUn];trivial,fun _ _ _ _=>by simp only[pPr];trivial⟩
 | succ f ih=>
  obtain⟨iW,iJ,iL,iU,iP⟩:=ih
  refine⟨?_,?_,?_,?_,?_⟩
  ·intro nest ts n hn
   simp only[pWh]
   refine (iJ 1 nest ts n hn).bind fun x r hr=>?_
   split
   ·exact open_shr ((iW _ _ n (tail_le hr)).bind fun y r2 h2=>(must_shr h2).bind fun _ r3 h3=>(iW _ r3 n h3).bind fun z r4 h4=>h4)
   ·exact hr
  ·intro rank nest ts n hn
   simp only[pJo]
   split
   ·exact iU nest ts n hn
   ·exact (iJ (rank+1) nest ts n hn).bind fun x r hr=>iL rank nest x r n hr
  ·intro rank nest x ts n hn
   simp only[pLo]
   split
   ·exact hn
   ·refine (iJ (rank+1) nest ts.tail n (tail_le hn)).bind fun y r hr=>?_
    split
    ·exact hr
    ·exact iL rank nest _ r n hr
  ·intro nest ts n hn
   simp only[pUn]
   split
   ·exact open_shr ((iU _ _ n (tail_le hn)).bind fun y r hr=>hr)
   ·split
    ·exact open_shr ((iU _ _ n (tail_le hn)).bind fun y r hr=>hr)
    ·exact iP nest ts n hn
  ·intro nest ts n hn
   have ht:ts.tail.length≤n:=tail_le hn
   have htt:ts.tail.tail.length≤n:=tail_le ht
   simp only[pPr]
   split
   ·exact ht
   ·split
    ·exact ht
    ·split
     ·exact br_shr (iW _ _ n ht)
     ·split
      ·split
       ·exact (br_shr (iW _ _ n htt)).bind fun x r hr=>hr
       ·exact (br_shr (name_shr htt)).bind fun x r hr=>hr
      ·split
       ·exact (br_shr (name_shr htt)).bind fun x r hr=>hr
       ·refine (must_shr hn).bind fun _ r hr=>?_
        refine Shr.bind (n:=n) ?_ fun x r2 h2=>h2
        exact br_shr ((iW _ _ n (tail_le hr)).bind fun y r2 h2=>(must_shr h2).bind fun _ r3 h3=>(iW _ r3 n h3).bind fun z r4 h4=>h4)
end Go.Proofs.YtlfooogmoigpfaaGreatDoor
namespace Go.Proofs.YtlfooogmoigpfaaGreatDoor
open Go.RowKit Go.Sort Go.Shelf
theorem put7_other {W:World} {B k:Nat} (hk:k≠B) (a0 a1 a2 a3 a4 a5 a6:Value):(put7 W B a0 a1 a2 a3 a4 a5 a6).heap[k]? = W.heap[k]?:=by
 simp only[put7]
 rw[heap_setCell_other _ _ _ _ hk,heap_setCell_other _ _ _ _ hk,heap_setCell_other _ _ _ _ hk,heap_setCell_other _ _ _ _ hk,heap_setCell_other _ _ _ _ hk,heap_setCell_other _ _ _ _ hk,heap_setCell_other _ _ _ _ hk]
theorem okE_put {P:Nat→Prop} {x:Ex} {v:Value} {W:World} {B:Nat} (h:okE P x v W) (hn:∀k,P k→k≠B) (a0 a1 a2 a3 a4 a5 a6:Value):okE P x v (put7 W B a0 a1 a2 a3 a4 a5 a6):=okE_f _ _ _ _ _ _ h (fun _ q=>q) (fun k hk _=>put7_other (hn k hk) _ _ _ _ _ _ _)
theorem FS.low {w W W':World} {rb rc wc:Nat} {ts:List Tok} {en:Nat × Nat} {nest:Nat} {v:Value} (h:FS w W rb rc wc ts en nest v) (he:Env w rb rc wc) (hb:Below w.heap.size W W'):FS w W' rb rc wc ts en nest v:=
 ⟨h.lt,h.t1.low hb,h.rd.low hb h.lt,he.t1 (h.t1.low hb)⟩
def measT (rb:Nat) (W:World):Nat:=match W.cell? ⟨rb,0,none⟩ with
 | some (.slice _ n _)=>n
 | _=>0
theorem measT_rd {W:World} {rb:Nat} {ts:List Tok} {en:Nat × Nat} {nest:Nat} {v:Value} (h:RdB W rb ts en nest v):measT rb W=ts.length:=by
 obtain⟨ao,c,rfl,_⟩:=h.tok
 unfold measT
 rw[h.cells.1.1]
theorem Row4.t1 {sb:Nat} {w w':World} {R:Nat} {v0 v1 v2 v3:Value} (h:Row4 w R v0 v1 v2 v3) (ht:T1 sb w w') (hn:R≠sb):Row4 w' R v0 v1 v2 v3:=(ht.block R (blk_lt h) hn).trans h
structure JL (w wr:World) (rb rc wc B:Nat) (en:Nat × Nat) (nest rank f:Nat) (G:PR Ex) (g:Nat) (x:Ex) (ts:List Tok) (v:Value) (k o n l c:Int) (s:ByteArray) (ao:Option Addr) (q qc:Nat):Prop where
 gf:g≤f
 fs:FS w wr rb rc wc ts en nest v
 z:z7 wr w.heap.size
 row:Row7 wr B (Zi k) (Zi o) (Zi n) (.string s) (.slice ao q qc) (Zi l) (Zi c)
 ok:okE (fun k=>w.heap.size < k∧k≠B) x (.agg #[Zi k,Zi o,Zi n,.string s,.slice ao q qc,Zi l,Zi c]) wr
 eq:G=pLo en g rank nest x ts
 bb:w.heap.size < B
theorem pLo_none {en:Nat × Nat} {g rank nest:Nat} {x:Ex} {ts:List Tok} (h:jointO rank (nxtT ts)=none) (hne:pLo en g rank nest x ts≠.er (0,0) 0):pLo en g rank nest x ts=.ok x ts:=by
 cases g with
 | zero=>exact absurd (by simp only[pLo]) hne
 | succ g=>simp only[pLo,h]
theorem pLo_some {en:Nat × Nat} {g rank nest:Nat} {x:Ex} {ts:List Tok} {k o:Nat} (h:jointO rank (nxtT ts)=some (k,o)) (hne:pLo en g rank nest x ts≠.er (0,0) 0):∃g',g=g'+1∧pLo en g rank nest x ts=(pJo en g' (rank+1) nest ts.tail).bind fun y r=>if rank=6 then .ok (.mk k o 0 [] [x,y] (nxtP en ts)) r else pLo en g' rank nest (.mk k o 0 [] [x,y] (nxtP en ts)) r:=by
 cases g with
 | zero=>exact absurd (by simp only[pLo]) hne
 | succ g=>exact⟨g,rfl,by simp only[pLo,h]⟩
theorem jo_len {rank:Nat} {ts:List Tok} {p:Nat × Nat} (h:jointO rank (nxtT ts)=some p):ts≠[]:=by
 rintro rfl
 rw[show nxtT []=[] from rfl,jo_nil] at h
 cases h
theorem pJo_10 (en:Nat × Nat) (f nest:Nat) (ts:List Tok):pJo en (f+1) 10 nest ts=pUn en f nest ts:=by simp only[pJo];rfl
theorem pJo_lt (en:Nat × Nat) (f rank nest:Nat) (ts:List Tok) (h:rank≠10):pJo en (f+1) rank nest ts=(pJo en f (rank+1) nest ts).bind fun x r=>pLo en f rank nest x r:=by simp only[pJo,if_neg h]
theorem joined10_any {rb rc wc:Nat} {en:Nat × Nat} {f:Nat} (hU:CU rb rc wc en f) (w:World) (ts:List Tok) (nest:Nat) (v:Value) (hr:RdB w rb ts en nest v) (hn:nest≤200) (he:Env w rb rc wc) (hne:pUn en f nest ts≠.er (0,0) 0) :
  Calls Tryz.prog 108 #[Zp rb,Zi 10,whV rc wc] w (PrP w rb en nest (pUn en f nest ts) (okE (New noB w.heap.size))):=by
 obtain⟨W1,hW1⟩:=nm (w.alloc (.cells #[Zi 0,Zi 0,Zi 0,Ze,Zn,Zi 0,Zi 0] 66))
 have hs1:FS w W1 rb rc wc ts en nest v:=by rw[hW1];exact (FS.start hr he).al _
 have hz1:z7 W1 w.heap.size:=by rw[hW1];exact Row7.al _ _ _ _ _ _ _ _
 have HJ:=Zh (hU W1 ts nest v hs1.rd hn hs1.env hne)
 generalize pUn en f nest ts=G at *
 have HS:=Zh hs1
 have HZ:=Zh hz1
 clear hs1 hz1 hne hr he hU
 go_enter Tryz.func108,Tryz.ntmps108
 go_upto_region 1 with fail
 rw[← hW1]
 clear hW1
 go_wp2_with fail
 refine HJ.out.mono ?_
 clear HJ
 cases G with
 | er p x=>
  rintro e w6 ⟨rfl,ht⟩
  exact⟨rfl,er_fin rfl (HS.out.t1.trans ht)⟩
 | ok y r3=>
  rintro e w6 ⟨yv,v3,rfl,hy,hr6,ht⟩
  obtain⟨k,o,n,l,c,s,ao,q,qc,rfl⟩:=okE_7 _ _ _ _ hy
  have hlt:=HS.out.lt
  have hz6:=HZ.out.t1 ht (by omega)
  have h9:=blk_lt HZ.out
  have HF:=Zh (res_fin rfl okE_f hlt (HS.out.t1.trans ht) hz6 hy (P':=New noB w.heap.size) (fun k hk=>hk.imp id (fun h=>by omega)) (fun k hk=>by
     rcases hk with hk | hk
     ·exact hk.elim
     ·omega) hr6)
  obtain⟨_,y0,y1,y2,y3,y4,y5,y6⟩:=hz6.cells
  clear hy hr6 ht hz6 HZ HS hlt h9
  go_wp2_with fail
  obtain⟨⟨d0,d1,d2,d3,d4,d5,d6⟩,_⟩:=HF.out.1.cells
  exact bodyPost_ret (v:=.agg #[Zi k,Zi o,Zi n,.string s,.slice ao q qc,Zi l,Zi c]) (by simp[results,Tryz.results108,go_sem,d0,d1,d2,d3,d4,d5,d6]) rfl HF.out.2
theorem joinedLo_any {rb rc wc:Nat} {en:Nat × Nat} {f:Nat} (hJ:∀g,g≤f→CJ rb rc wc en g) (w:World) (rank:Nat) (ts:List Tok) (nest:Nat) (v:Value) (hr:RdB w rb ts en nest v) (hn:nest≤200) (he:Env w rb rc wc) (h1:1≤rank) (h9:rank≤9) (hne:pJo en (f+1) rank nest ts≠.er (0,0) 0) :
  Calls Tryz.prog 108 #[Zp rb,Zi (rank:Int),whV rc wc] w (PrP w rb en nest (pJo en (f+1) rank nest ts) (okE (New noB w.heap.size))):=by
 obtain⟨W1,hW1⟩:=nm (w.alloc (.cells #[Zi 0,Zi 0,Zi 0,Ze,Zn,Zi 0,Zi 0] 66))
 have hs1:FS w W1 rb rc wc ts en nest v:=by rw[hW1];exact (FS.start hr he).al _
 have hz1:z7 W1 w.heap.size:=by rw[hW1];exact Row7.al _ _ _ _ _ _ _ _
 rw[pJo_lt en f rank nest ts (by omega)] at hne ⊢
 have hpj:pJo en f (rank+1) nest ts≠.er (0,0) 0:=fun h=>hne (by rw[h];rfl)
 have HJ:Hid (Calls Tryz.prog 108 #[Zp rb,Zi ((rank:Int)+1),whV rc wc] W1 (PrP W1 rb en nest (pJo en f (rank+1) nest ts) (okE (New noB W1.heap.size)))):=Zh (hJ f (Nat.le_refl f) W1 (rank+1) ts nest v hs1.rd hn hs1.env (by omega) (by omega) hpj)
 have HJs:Hid (∀g,g≤f→∀(U:World) (ts:List Tok) (v:Value),FS w U rb rc wc ts en nest v→pJo en g (rank+1) nest ts≠.er (0,0) 0→Calls Tryz.prog 108 #[Zp rb,Zi ((rank:Int)+1),whV rc wc] U (PrP U rb en nest (pJo en g (rank+1) nest ts) (okE (New noB U.heap.size)))):=Zh fun g hg U ts v hU hn2=>hJ g hg U (rank+1) ts nest v hU.rd hn hU.env (by omega) (by omega) hn2
 obtain⟨G,hG⟩:=nm ((pJo en f (rank+1) nest ts).bind fun x r=>pLo en f rank nest x r)
 rw[← hG] at hne ⊢
 generalize pJo en f (rank+1) nest ts=R at *
 have HG:=Zh hG
 have HS:=Zh hs1
 have HZ:=Zh hz1
 have HNe:=Zh hne
 have HE:=Zh he
 have hrk:((rank:Int) == 10)=false:=by simp;omega
 have hrk9:(rank:Int)≤9:=by omega
 have hrk1:(1:Int)≤(rank:Int):=by omega
 have HR:Hid (rank≤9):=h9
 clear hG hs1 hz1 hne hr he hpj hJ h1 h9
 go_enter Tryz.func108,Tryz.ntmps108
 go_upto_region 1 with fail
 rw[← hW1]
 have HWs:Hid (w.heap.size < W1.heap.size):=by rw[hW1];exact Zh (by simp)
 clear hW1
 go_wp2_with fail
 refine HJ.out.mono ?_
 clear HJ
 cases R with
 | er p x=>
  rintro e w3 ⟨rfl,ht⟩
  exact⟨rfl,er_fin HG.out (HS.out.t1.trans ht)⟩
 | ok x r2=>
  rintro e w3 ⟨xv,v2,rfl,hx,hr3,ht⟩
  obtain⟨k,o,n,l,c,s,ao,q,qc,rfl⟩:=okE_7 _ _ _ _ hx
  obtain⟨B,hB⟩:=nm (w3.heap.size)
  obtain⟨w4,hw4⟩:=nm (w3.alloc (.cells #[Zi k,Zi o,Zi n,.string s,.slice ao q qc,Zi l,Zi c] 66))
  have hb4:Below w3.heap.size w3 w4:=by rw[hw4];exact bel_al _ _
  have hs3:=HS.out.call ht hr3
  have hB4:Row7 w4 B (Zi k) (Zi o) (Zi n) (.string s) (.slice ao q qc) (Zi l) (Zi c):=by rw[hw4,hB];exact Row7.al _ _ _ _ _ _ _ _
  have HL:Hid (∃g x ts v k o n l c s ao q qc,JL w w4 rb rc wc B en nest rank f G g x ts v k o n l c s ao q qc):=Zh ⟨f,x,r2,v2,k,o,n,l,c,s,ao,q,qc,Nat.le_refl _,hs3.bel hb4,(HZ.out.t1 ht (by have:=hs3.lt;omega)).kept hb4,hB4,okE_mono (okE_bel (okE_lt hx) hb4) (fun k hk _=>by
   obtain⟨h1,h2⟩:=hk
   have h3:=HWs.out
   rcases h1 with h1 | h1
   ·exact h1.elim
   ·exact⟨by omega,by omega⟩),HG.out,by have:=HWs.out;have:=ht.size;omega⟩
  clear hx hr3 ht hs3 hb4 hB4 HS HZ HG HWs
  go_upto_region 4 with fail
  rw[← hw4,← hB]
  clear hw4 hB
  go_loopw[] (fun wr=>Hid (∃g x ts v k o n l c s ao q qc,JL w wr rb rc wc B en nest rank f G g x ts v k o n l c s ao q qc)) (fun wr=>measT rb wr)
  case atStart=>exact HL
  case round=>
   obtain⟨g,x,ts,v,k,o,n,l,c,s,ao,q,qc,hL⟩:=hrel.out
   have HM:Hid (measT rb wr=ts.length):=Zh (measT_rd hL.fs.rd)
   have HN:=next_any wr rb ts en nest v hL.fs.rd
   have HJt:=fun U (hU:Below wr.heap.size wr U)=>(jointOf_any U rank (nxtT ts) (hL.fs.bel hU).env.jo).mono fun e w' (q:JtP rank (nxtT ts) e∧Below U.heap.size U w')=>(⟨q.1,hU.trans (q.2.mono hU.size)⟩:JtP rank (nxtT ts) e∧Below wr.heap.size wr w')
   have hng:pLo en g rank nest x ts≠.er (0,0) 0:=by rw[← hL.eq];exact HNe.out
   clear hrel HL
   cases hj:jointO rank (nxtT ts) with
   | none=>
    have HG2:Hid (G=.ok x ts):=Zh (hL.eq.trans (pLo_none hj hng))
    unfold JtP at HJt
    rw[hj] at HJt
    have HJt:=Zh HJt
    have HL:=Zh hL
    generalize nxtP en ts=p at *
    obtain⟨pl,pc⟩:=p
    generalize nxtN ts=nv at *
    generalize nxtT ts=tx at *
    generalize nxtK ts=kd at *
    have HN:Hid (Calls Tryz.prog 106 #[Zp rb] wr fun e w'=>e=.returned (.agg #[Zi (kd:Int),.string (S tx),Zi nv,Zi (pl:Int),Zi (pc:Int)])∧Below wr.heap.size wr w'):=Zh HN
    have hfl:∀w:World,(Instr.field 83 (.agg #[Zi (kd:Int),.string (S tx),Zi nv,Zi (pl:Int),Zi (pc:Int)]) 1).run Tryz.prog w=.ok (.string (S tx)) w:=fun _=>by kernel_rfl
    clear hL hj hng
    go_wp2_with fail
    refine HN.out.mono ?_
    rintro e w5 ⟨rfl,hb⟩
    have HJ5:=Zh (HJt.out w5 hb)
    clear HN HJt hb
    go_wp2_with fail
    refine HJ5.out.mono ?_
    rintro e w6 ⟨rfl,hb⟩
    have HB:=Zh hb
    clear HJ5 hb hfl
    obtain⟨w7,hw7⟩:=nm (w6.alloc (.cells #[Ze,Zi 0,Zi 0,Zi 0] 182))
    have hb7:Below wr.heap.size wr w7:=by rw[hw7];exact HB.out.trans ((bel_al w6 _).mono HB.out.size)
    have hs7:=HL.out.fs.bel hb7
    have hz7:=HL.out.z.kept hb7
    have hr7:=HL.out.row.kept hb7
    have HF:=Zh (res_fin HG2.out okE_f hs7.lt hs7.t1 hz7 (okE_bel HL.out.ok hb7) (P':=New noB w.heap.size) (fun k hk=>.inr (by omega)) (fun k hk=>by omega) hs7.rd)
    obtain⟨_,y0,y1,y2,y3,y4,y5,y6⟩:=hz7.cells
    obtain⟨⟨x0,x1,x2,x3,x4,x5,x6⟩,_⟩:=hr7.cells
    clear hs7 hz7 hr7 hb7 HB HL HG2 HM HE HNe HJs
    go_upto_region 5 with fail
    rw[← hw7]
    clear hw7
    go_wp2_with fail
    obtain⟨⟨d0,d1,d2,d3,d4,d5,d6⟩,_⟩:=HF.out.1.cells
    exact bodyPost_ret (v:=.agg #[Zi k,Zi o,Zi n,.string s,.slice ao q qc,Zi l,Zi c]) (by simp[results,Tryz.results108,go_sem,d0,d1,d2,d3,d4,d5,d6]) rfl HF.out.2
   | some ko=>
    obtain⟨jk,jo⟩:=ko
    obtain⟨g',rfl,hpl⟩:=pLo_some hj hng
    have hts:=jo_len hj
    cases ts with
    | nil=>exact absurd rfl hts
    | cons t r=>
    unfold JtP at HJt
    rw[hj] at HJt
    have HJt:=Zh HJt
    obtain⟨kd,tx,nv,pl,pc⟩:=t
    have hG2:=hL.eq.trans hpl
    rw[List.tail_cons] at hG2
    have hpp:nxtP en ((kd,tx,nv,pl,pc) :: r)=(pl,pc):=rfl
    rw[hpp] at hG2
    have HM2:Hid (measT rb wr=r.length+1):=HM.out
    have HG2:=Zh hG2
    have HT:Hid (∀U,Below wr.heap.size wr U→Calls Tryz.prog 79 #[Zp rb] U fun e w'=>e=.returned (.agg #[Zi (kd:Int),.string (S tx),Zi nv,Zi (pl:Int),Zi (pc:Int)])∧T1 rb U w'∧∃v',RdB w' rb r en nest v'):=Zh fun U hU=>(take_any U rb (kd,tx,nv,pl,pc) r en nest v (hL.fs.bel hU).rd).mono fun e w' q=>⟨q.1,q.2.1,q.2.2⟩
    have HL:=Zh hL
    have HN:Hid (Calls Tryz.prog 106 #[Zp rb] wr fun e w'=>e=.returned (.agg #[Zi (kd:Int),.string (S tx),Zi nv,Zi (pl:Int),Zi (pc:Int)])∧Below wr.heap.size wr w'):=Zh HN
    have HJt:Hid (∀U,Below wr.heap.size wr U→Calls Tryz.prog 129 #[Zi (rank:Int),.string (S tx)] U fun e w'=>e=.returned (.tuple #[.agg #[.string (S tx),Zi (rank:Int),Zi (jk:Int),Zi (jo:Int)],.bool true])∧Below wr.heap.size wr w'):=HJt
    have hfl:∀w:World,(Instr.field 83 (.agg #[Zi (kd:Int),.string (S tx),Zi nv,Zi (pl:Int),Zi (pc:Int)]) 1).run Tryz.prog w=.ok (.string (S tx)) w:=fun _=>by kernel_rfl
    have hfl3:∀w:World,(Instr.field 83 (.agg #[Zi (kd:Int),.string (S tx),Zi nv,Zi (pl:Int),Zi (pc:Int)]) 3).run Tryz.prog w=.ok (.agg #[Zi (pl:Int),Zi (pc:Int)]) w:=fun _=>by kernel_rfl
    clear hL hj hng hG2 hpl hts hpp HM
    go_wp2_with fail
    refine HN.out.mono ?_
    rintro e w5 ⟨rfl,hb⟩
    have HJ5:=Zh (HJt.out w5 hb)
    clear HN HJt hb
    go_wp2_with fail
    refine HJ5.out.mono ?_
    rintro e w6 ⟨rfl,hb⟩
    have HB:=Zh hb
    clear HJ5 hb hfl
    obtain⟨w7,hw7⟩:=nm (w6.alloc (.cells #[.string (S tx),Zi (rank:Int),Zi (jk:Int),Zi (jo:Int)] 182))
    obtain⟨BJ,hBJ⟩:=nm (w6.heap.size)
    have hb7:Below wr.heap.size wr w7:=by rw[hw7];exact HB.out.trans ((bel_al w6 _).mono HB.out.size)
    have hrj:Row4 w7 BJ (.string (S tx)) (Zi (rank:Int)) (Zi (jk:Int)) (Zi (jo:Int)):=by rw[hw7,hBJ];exact Row4.al _ _ _ _ _
    have HJw:Hid (wr.heap.size≤BJ):=Zh (by rw[hBJ];exact HB.out.size)
    have HRj:=Zh hrj
    have HT7:=Zh (HT.out w7 hb7)
    have HB7:=Zh hb7
    clear hb7 hrj HT HB
    go_upto_region 5 with fail
    rw[← hw7,← hBJ]
    clear hw7 hBJ
    go_wp2_with fail
    refine HT7.out.mono ?_
    rintro e w8 ⟨rfl,ht8,v8,hr8⟩
    have hlt:=HL.out.fs.lt
    have h89:=HL.out.fs.ge
    obtain⟨w9,hw9⟩:=nm (w8.alloc (.cells #[Zi (pl:Int),Zi (pc:Int)] 43))
    obtain⟨BS,hBS⟩:=nm (w8.heap.size)
    have hb9:Below w8.heap.size w8 w9:=by rw[hw9];exact bel_al _ _
    have ht79:T1 rb w7 w9:=ht8.trans (T1.bel hb9)
    have ht9:T1 rb wr w9:=(T1.bel HB7.out:T1 rb wr w7).trans ht79
    have hs9:=(HL.out.fs.call ((T1.bel HB7.out:T1 rb wr w7).trans ht8) hr8).bel hb9
    have hz9:=HL.out.z.t1 ht9 (by omega)
    have hr9:=HL.out.row.t1 ht9 (by have:=HL.out.bb;omega)
    have ho9:=okE_t1 HL.out.ok ht9 (fun k hk=>by omega)
    have hj9:=HRj.out.t1 ht79 (by have:=HJw.out;omega)
    have s0:w9.cell? ⟨BS,0,none⟩=some (Zi (pl:Int)):=by rw[hw9,hBS];exact cellN _ _ _ 0 _ rfl
    have s1:w9.cell? ⟨BS,1,none⟩=some (Zi (pc:Int)):=by rw[hw9,hBS];exact cellN _ _ _ 1 _ rfl
    have hpj:pJo en g' (rank+1) nest r≠.er (0,0) 0:=fun h=>HNe.out (by rw[HG2.out,h];rfl)
    have HJ9:=Zh (HJs.out g' (by have:=HL.out.gf;omega) w9 r v8 hs9 hpj)
    have HSr:=Zh ((shr_all en g').2.1 (rank+1) nest r r.length (Nat.le_refl _))
    have hg2:=HG2.out
    generalize pJo en g' (rank+1) nest r=R at *
    have HG3:=Zh hg2
    have HS9:=Zh hs9
    have HZ9:=Zh hz9
    have HR9:=Zh hr9
    have HO9:=Zh ho9
    have HRj9:=Zh hj9
    have HSp:Hid (w9.cell? ⟨BS,0,none⟩=some (Zi (pl:Int))∧w9.cell? ⟨BS,1,none⟩=some (Zi (pc:Int))):=Zh ⟨s0,s1⟩
    have HGf:Hid (g'≤f∧w.heap.size < B∧rb < w.heap.size∧w.heap.size < BJ∧w.heap.size < BS):=Zh ⟨by have:=HL.out.gf;omega,HL.out.bb,hlt,by have:=HJw.out;have:=blk_lt HL.out.row;have:=HL.out.bb;omega,by have:=HL.out.bb;have:=blk_lt HL.out.row;have:=ht8.size;have:=HB7.out.size;omega⟩
    clear hlt h89 hb9 ht79 ht9 ht8 hs9 hz9 hr9 ho9 hj9 s0 s1 hpj hg2 HL HRj HJw HB7 HG2 HT7 hr8
    go_upto_region 8 with fail
    rw[← hw9,← hBS]
    clear hw9 hBS
    go_wp2_with fail
    refine HJ9.out.mono ?_
    clear HJ9 hfl3
    cases R with
    | er p x=>
     rintro e w10 ⟨rfl,ht⟩
     exact⟨rfl,er_fin HG3.out (HS9.out.t1.trans ht)⟩
    | ok y r2=>
     rintro e w10 ⟨yv,v10,rfl,hy,hr10,ht⟩
     obtain⟨yk,yo,yn,yl,yc,ys,yao,yq,yqc,rfl⟩:=okE_7 _ _ _ _ hy
     obtain⟨w11,hw11⟩:=nm (w10.alloc (.cells #[Zi yk,Zi yo,Zi yn,.string ys,.slice yao yq yqc,Zi yl,Zi yc] 66))
     obtain⟨BY,hBY⟩:=nm (w10.heap.size)
     have hb11:Below w10.heap.size w10 w11:=by rw[hw11];exact bel_al _ _
     have hlt:=HGf.out
     have ht11:T1 rb w9 w11:=ht.trans (T1.bel hb11)
     have hs11:=(HS9.out.call ht hr10).bel hb11
     have hz11:=HZ9.out.t1 ht11 (by omega)
     have hr11:=HR9.out.t1 ht11 (by omega)
     have hx11:=okE_t1 HO9.out ht11 (fun k hk=>by omega)
     have hj11:=HRj9.out.t1 ht11 (by omega)
     have p0:=ht11.cell HSp.out.1 (by omega)
     have p1:=ht11.cell HSp.out.2 (by omega)
     have hyr:Row7 w11 BY (Zi yk) (Zi yo) (Zi yn) (.string ys) (.slice yao yq yqc) (Zi yl) (Zi yc):=by rw[hw11,hBY];exact Row7.al _ _ _ _ _ _ _ _
     have hz9s:=blk_lt HR9.out
     have hy11:=okE_mono (P':=fun k=>w.heap.size < k∧k≠B) (okE_bel (okE_lt hy) hb11) (fun k hk _=>by
      obtain⟨h1,h2⟩:=hk
      rcases h1 with h1 | h1
      ·exact h1.elim
      ·exact⟨by omega,by omega⟩)
     have hrow:ExsC (fun k=>w.heap.size < k∧k≠B) w11 [x,y] [Zi k,Zi o,Zi n,.string s,.slice ao q qc,Zi l,Zi c,Zi yk,Zi yo,Zi yn,.string ys,.slice yao yq yqc,Zi yl,Zi yc]:=okE_cons hx11 (okE_cons hy11 .nil)
     have hsz:=blk_lt hr11
     have har:=ArC_new (P':=fun k=>w.heap.size < k∧k≠B) hrow (fun k hk=>hk) ⟨by omega,by omega⟩
     obtain⟨w12,hw12⟩:=nm (w11.alloc (.cells #[Zi k,Zi o,Zi n,.string s,.slice ao q qc,Zi l,Zi c,Zi yk,Zi yo,Zi yn,.string ys,.slice yao yq yqc,Zi yl,Zi yc] 66))
     have hb12:Below w11.heap.size w11 w12:=by rw[hw12];exact bel_al _ _
     have har:ArC (fun k=>w.heap.size < k∧k≠B) w12 [x,y] (.slice (some ⟨w11.heap.size,0,none⟩) 2 2):=by rw[hw12];exact har
     have hs12:=hs11.bel hb12
     have hz12:=hz11.kept hb12
     have hr12:=hr11.kept hb12
     have p0:=(T1.bel hb12:T1 rb w11 w12).cell p0 (by omega)
     have p1:=(T1.bel hb12:T1 rb w11 w12).cell p1 (by omega)
     have ho12:okE (fun k=>w.heap.size < k∧k≠B) (.mk jk jo 0 [] [x,y] (pl,pc)) (.agg #[Zi (jk:Int),Zi (jo:Int),Zi 0,Ze,.slice (some ⟨w11.heap.size,0,none⟩) 2 2,Zi (pl:Int),Zi (pc:Int)]) w12:=⟨_,rfl,har⟩
     obtain⟨W13,hW13⟩:=nm ((((((((w12.setCell ⟨B,0,none⟩ (Zi (jk:Int))).setCell ⟨B,1,none⟩ (Zi (jo:Int))).setCell ⟨B,2,none⟩ (Zi 0)).setCell ⟨B,3,none⟩ (Ze)).setCell ⟨B,4,none⟩ (.slice (some ⟨w11.heap.size,0,none⟩) 2 2)).setCell ⟨B,5,none⟩ (Zi (pl:Int))).setCell ⟨B,6,none⟩ (Zi (pc:Int))))
     have hput:W13=put7 w12 B (Zi (jk:Int)) (Zi (jo:Int)) (Zi 0) (Ze) (.slice (some ⟨w11.heap.size,0,none⟩) 2 2) (Zi (pl:Int)) (Zi (pc:Int)):=hW13
     have hbp:Below w.heap.size w12 W13:=by rw[hput];exact put7_below (Below.refl _ _) (by omega) _ _ _ _ _ _ _
     have HS13:=Zh (hs12.low HE.out hbp)
     have HZ13:Hid (z7 W13 w.heap.size):=Zh (by rw[hput];exact (put7_other (by omega) _ _ _ _ _ _ _).trans hz12)
     have HR13:Hid (Row7 W13 B (Zi (jk:Int)) (Zi (jo:Int)) (Zi 0) (Ze) (.slice (some ⟨w11.heap.size,0,none⟩) 2 2) (Zi (pl:Int)) (Zi (pc:Int))):=Zh (by rw[hput];exact hr12.put _ _ _ _ _ _ _)
     have HO13:Hid (okE (fun k=>w.heap.size < k∧k≠B) (.mk jk jo 0 [] [x,y] (pl,pc)) (.agg #[Zi (jk:Int),Zi (jo:Int),Zi 0,Ze,.slice (some ⟨w11.heap.size,0,none⟩) 2 2,Zi (pl:Int),Zi (pc:Int)]) W13):=Zh (by rw[hput];exact okE_put ho12 (fun k hk=>hk.2) _ _ _ _ _ _ _)
     have HLen:Hid (r2.length≤r.length):=Zh (HSr.out.ok rfl)
     obtain⟨⟨x0,x1,x2,x3,x4,x5,x6⟩,_⟩:=hr11.cells
     obtain⟨⟨y0,y1,y2,y3,y4,y5,y6⟩,_⟩:=hyr.cells
     obtain⟨⟨_,_,j2,j3⟩,_⟩:=hj11.cells
     obtain⟨_,f0,f1,f2,f3,f4,f5,f6⟩:=hr12.cells
     clear hy hr10 ht hb11 ht11 hs11 hz11 hr11 hx11 hj11 hyr hy11 hrow har hb12 hs12 hz12 hr12 ho12 hbp hput hlt hz9s hsz HS9 HZ9 HR9 HO9 HRj9 HSp HSr
     subst hw12
     go_upto_region 9 with fail
     rw[← hw11,← hBY]
     clear hw11 hBY
     go_upto_region 10 with fail
     rw[← hW13]
     clear hW13
     clear x0 x1 x2 x3 x4 x5 x6 y0 y1 y2 y3 y4 y5 y6 j2 j3 f0 f1 f2 f3 f4 f5 f6 p0 p1
     have HJO:=joinsOnce_any W13 rank
     by_cases h6:rank=6
     ·rw[decide_eq_true h6] at HJO
      have HJO:=Zh HJO
      have hg3:=HG3.out
      rw[PR.bind_ok,if_pos h6] at hg3
      have hz:=HZ13.out
      have hr:=HR13.out
      have HF:=Zh (res_fin hg3 okE_f HGf.out.2.2.1 HS13.out.t1 hz HO13.out (P':=New noB w.heap.size) (fun k hk=>.inr (by omega)) (fun k hk=>by omega) HS13.out.rd)
      obtain⟨_,y0,y1,y2,y3,y4,y5,y6⟩:=hz.cells
      obtain⟨⟨x0,x1,x2,x3,x4,x5,x6⟩,_⟩:=hr.cells
      clear h6 hg3 hz hr HG3 HS13 HZ13 HR13 HO13 HGf HLen HM2 HE HNe HJs HR
      go_wp2_with fail
      refine HJO.out.mono ?_
      rintro e w14 ⟨rfl,rfl⟩
      clear HJO
      go_wp2_with fail
      obtain⟨⟨d0,d1,d2,d3,d4,d5,d6⟩,_⟩:=HF.out.1.cells
      exact bodyPost_ret (v:=.agg #[Zi (jk:Int),Zi (jo:Int),Zi 0,Ze,.slice (some ⟨w11.heap.size,0,none⟩) 2 2,Zi (pl:Int),Zi (pc:Int)]) (by simp[results,Tryz.results108,go_sem,d0,d1,d2,d3,d4,d5,d6]) rfl HF.out.2
     ·rw[decide_eq_false h6] at HJO
      have HJO:=Zh HJO
      have hg3:=HG3.out
      rw[PR.bind_ok,if_neg h6] at hg3
      have HL:Hid (∃g x ts v k o n l c s ao q qc,JL w W13 rb rc wc B en nest rank f G g x ts v k o n l c s ao q qc):=Zh ⟨g',_,r2,v10,(jk:Int),(jo:Int),0,(pl:Int),(pc:Int),⟨#[]⟩,some ⟨w11.heap.size,0,none⟩,2,2,HGf.out.1,HS13.out,HZ13.out,HR13.out,HO13.out,hg3,HGf.out.2.1⟩
      have HMe:Hid (measT rb W13 < measT rb wr):=Zh (by rw[HM2.out,measT_rd HS13.out.rd];have:=HLen.out;omega)
      clear h6 hg3 HG3 HS13 HZ13 HR13 HO13 HGf HLen HM2
      go_wp2_with fail
      refine HJO.out.mono ?_
      rintro e w14 ⟨rfl,rfl⟩
      clear HJO
      go_wp2_with fail
      go_roundw
      case rel=>exact HL
      case measure=>exact HMe.out
theorem joined_any {rb rc wc:Nat} {en:Nat × Nat} {f:Nat} (hU:CU rb rc wc en f) (hJ:∀g,g≤f→CJ rb rc wc en g):CJ rb rc wc en (f+1):=by
 intro U rank ts nest v hr hn he h1 h10 hne
 by_cases h:rank=10
 ·subst h
  rw[pJo_10] at hne ⊢
  exact joined10_any hU U ts nest v hr hn he hne
 ·exact joinedLo_any hJ U rank ts nest v hr hn he h1 (by omega) hne
theorem open_bind {α β:Type} (en:Nat × Nat) (nest:Nat) (ts:List Tok) (inner:Nat→List Tok→PR α) (g:α→List Tok→PR β):(pOpen en nest ts inner).bind g=pOpen en nest ts (fun ns r=>(inner ns r).bind g):=by
 unfold pOpen
 split <;> rfl
theorem unaryI_any {rb rc wc:Nat} {en:Nat × Nat} {f:Nat} (hU:CU rb rc wc en f) (w:World) (pr pw:Nat) (ts:List Tok) (nest:Nat) (v:Value) (hr:RdB w rb ts en nest v) (hn:nest≤200) (he:Env w rb rc wc) (kr:w.cell? ⟨pr,0,none⟩=some (Zp rb)) (kw:w.cell? ⟨pw,0,none⟩=some (whV rc wc)) (hne:pUn en f nest ts≠.er (0,0) 0) :
  Calls Tryz.prog 143 #[Zp pr,Zp pw] w (PrP w rb en nest (pUn en f nest ts) (okE (New noB w.heap.size))):=by
 obtain⟨W1,hW1⟩:=nm (w.alloc (.cells #[Zi 0,Zi 0,Zi 0,Ze,Zn,Zi 0,Zi 0] 66))
 have hb1:Below w.heap.size w W1:=by rw[hW1];exact bel_al _ _
 have hs1:FS w W1 rb rc wc ts en nest v:=(FS.start hr he).bel hb1
 have hz1:z7 W1 w.heap.size:=by rw[hW1];exact Row7.al _ _ _ _ _ _ _ _
 have c1:=(hb1.cell (cell_lt kr)).trans kr
 have c2:=(hb1.cell (cell_lt kw)).trans kw
 have HJ:=Zh (hU W1 ts nest v hs1.rd hn hs1.env hne)
 generalize pUn en f nest ts=G at *
 have HS:=Zh hs1
 have HZ:=Zh hz1
 clear hs1 hz1 hne hr he hU hb1 kr kw
 go_enter Tryz.func143,Tryz.ntmps143
 go_upto_region 1 with fail
 rw[← hW1]
 clear hW1
 go_wp2_with fail
 refine HJ.out.mono ?_
 clear HJ c1 c2
 cases G with
 | er p x=>
  rintro e w6 ⟨rfl,ht⟩
  exact⟨rfl,er_fin rfl (HS.out.t1.trans ht)⟩
 | ok y r3=>
  rintro e w6 ⟨yv,v3,rfl,hy,hr6,ht⟩
  obtain⟨k,o,n,l,c,s,ao,q,qc,rfl⟩:=okE_7 _ _ _ _ hy
  have hlt:=HS.out.lt
  have hz6:=HZ.out.t1 ht (by omega)
  have h9:=blk_lt HZ.out
  have HF:=Zh (res_fin rfl okE_f hlt (HS.out.t1.trans ht) hz6 hy (P':=New noB w.heap.size) (fun k hk=>hk.imp id (fun h=>by omega)) (fun k hk=>by
     rcases hk with hk | hk
     ·exact hk.elim
     ·omega) hr6)
  obtain⟨_,y0,y1,y2,y3,y4,y5,y6⟩:=hz6.cells
  clear hy hr6 ht hz6 HZ HS hlt h9
  go_wp2_with fail
  obtain⟨⟨d0,d1,d2,d3,d4,d5,d6⟩,_⟩:=HF.out.1.cells
  exact bodyPost_ret (v:=.agg #[Zi k,Zi o,Zi n,.string s,.slice ao q qc,Zi l,Zi c]) (by simp[results,Tryz.results143,go_sem,d0,d1,d2,d3,d4,d5,d6]) rfl HF.out.2
structure UB (w W:World) (rb rc wc:Nat) (ts:List Tok) (en:Nat × Nat) (nest:Nat) (v:Value):Prop where
 fs:FS w W rb rc wc ts en nest v
 kr:W.cell? ⟨w.heap.size,0,none⟩=some (Zp rb)
 kw:W.cell? ⟨w.heap.size+1,0,none⟩=some (whV rc wc)
 z:z7 W (w.heap.size+1+1)
theorem UB.bel {w W W':World} {rb rc wc:Nat} {ts:List Tok} {en:Nat × Nat} {nest:Nat} {v:Value} (h:UB w W rb rc wc ts en nest v) (hb:Below W.heap.size W W'):UB w W' rb rc wc ts en nest v:=
 ⟨h.fs.bel hb,(hb.cell (cell_lt h.kr)).trans h.kr,(hb.cell (cell_lt h.kw)).trans h.kw,h.z.kept hb⟩
theorem UB.call {w W W':World} {rb rc wc:Nat} {ts ts':List Tok} {en:Nat × Nat} {nest nest':Nat} {v v':Value} (h:UB w W rb rc wc ts en nest v) (ht:T1 rb W W') (hr:RdB W' rb ts' en nest' v'):UB w W' rb rc wc ts' en nest' v':=by
 have hl:=h.fs.lt
 exact⟨h.fs.call ht hr,ht.cell h.kr (by omega),ht.cell h.kw (by omega),h.z.t1 ht (by omega)⟩
theorem UB.start {w:World} {rb rc wc:Nat} {ts:List Tok} {en:Nat × Nat} {nest:Nat} {v:Value} (hr:RdB w rb ts en nest v) (he:Env w rb rc wc):UB w (((w.alloc (.cells #[Zp rb] 101)).alloc (.cells #[whV rc wc] 91)).alloc (.cells #[Zi 0,Zi 0,Zi 0,Ze,Zn,Zi 0,Zi 0] 66)) rb rc wc ts en nest v:=by
 obtain⟨wa,hwa⟩:=nm (w.alloc (.cells #[Zp rb] 101))
 obtain⟨wd,hwd⟩:=nm (wa.alloc (.cells #[whV rc wc] 91))
 obtain⟨W1,hW1⟩:=nm (wd.alloc (.cells #[Zi 0,Zi 0,Zi 0,Ze,Zn,Zi 0,Zi 0] 66))
 rw[← hwa,← hwd,← hW1]
 have sa:wa.heap.size=w.heap.size+1:=by rw[hwa];simp
 have sd:wd.heap.size=w.heap.size+1+1:=by rw[hwd];simp[sa]
 have ba:Below w.heap.size w wa:=by rw[hwa];exact bel_al _ _
 have bd:Below wa.heap.size wa wd:=by rw[hwd];exact bel_al _ _
 have b1:Below wd.heap.size wd W1:=by rw[hW1];exact bel_al _ _
 have bd1:Below wa.heap.size wa W1:=bd.trans (b1.mono bd.size)
 have ba1:Below w.heap.size w W1:=ba.trans (bd1.mono ba.size)
 refine⟨(FS.start hr he).bel ba1,?_,?_,?_⟩
 ·exact (bd1.cell (p:=⟨w.heap.size,0,none⟩) (by show w.heap.size < wa.heap.size;omega)).trans (by rw[hwa];exact cellN _ _ _ 0 _ rfl)
 ·exact (b1.cell (p:=⟨w.heap.size+1,0,none⟩) (by show w.heap.size+1 < wd.heap.size;omega)).trans (by rw[hwd,← sa];exact cellN _ _ _ 0 _ rfl)
 ·rw[hW1,← sd];exact Row7.al _ _ _ _ _ _ _ _
def opU (i:Nat):Nat:=if i=0 then 20 else 21
def sgU (i:Nat):List UInt8:=if i=0 then [45] else [33]
def pUI (en:Nat × Nat) (f nest op:Nat) (ts:List Tok):PR Ex:=(pOpen en nest ts fun ns r=>pUn en f ns r).bind fun x r2=>.ok (.mk 6 op 0 [] [x] (nxtP en ts)) r2
theorem pUn_eq (en:Nat × Nat) (f nest:Nat) (ts:List Tok):pUn en (f+1) nest ts=if nxtT ts=[45] then pUI en f nest 20 ts else if nxtT ts=[33] then pUI en f nest 21 ts else pPr en f nest ts:=by
 simp only[pUn,pUI,open_bind]
theorem pUn_hit {en:Nat × Nat} {f nest i:Nat} {ts:List Tok} (hi:i < 2) (hm:∀j,j < i→nxtT ts≠sgU j) (h:nxtT ts=sgU i):pUn en (f+1) nest ts=pUI en f nest (opU i) ts:=by
 rw[pUn_eq]
 obtain rfl | rfl:i=0∨i=1:=by omega
 ·rw[if_pos (show nxtT ts=[45] from h)];rfl
 ·rw[if_neg (show ¬nxtT ts=[45] from hm 0 (by omega)),if_pos (show nxtT ts=[33] from h)];rfl
theorem pUn_miss {en:Nat × Nat} {f nest:Nat} {ts:List Tok} (hm:∀j,j < 2→nxtT ts≠sgU j):pUn en (f+1) nest ts=pPr en f nest ts:=by
 rw[pUn_eq,if_neg (show ¬nxtT ts=[45] from hm 0 (by omega)),if_neg (show ¬nxtT ts=[33] from hm 1 (by omega))]
theorem unary_index (i:Nat) (hi:i < 2) (W:World):(Instr.index 190 (.agg #[Zi 20,Zi 21]) (Zi (i:Int))).run Tryz.prog W=.ok (Zi (opU i:Int)) W:=by
 obtain rfl | rfl:i=0∨i=1:=by omega
 all_goals kernel_rfl
theorem sign_any (i:Nat) (hi:i < 2) (w:World):Calls Tryz.prog 142 #[Zi (opU i:Int)] w fun e w'=>e=.returned (.string (S (sgU i)))∧w'=w:=by
 obtain rfl | rfl:i=0∨i=1:=by omega
 ·exact signNeg_any w
 ·exact signNot_any w
theorem unary_any {rb rc wc:Nat} {en:Nat × Nat} {f:Nat} (hU:CU rb rc wc en f) (hP:CP rb rc wc en f):CU rb rc wc en (f+1):=by
 intro w ts nest v hr hn he hne
 have hu1:=UB.start hr he
 obtain⟨W1,hW1⟩:=nm (((w.alloc (.cells #[Zp rb] 101)).alloc (.cells #[whV rc wc] 91)).alloc (.cells #[Zi 0,Zi 0,Zi 0,Ze,Zn,Zi 0,Zi 0] 66))
 rw[← hW1] at hu1
 obtain⟨G,hG⟩:=nm (pUn en (f+1) nest ts)
 rw[← hG] at hne ⊢
 have HG:=Zh hG
 have HU1:=Zh hu1
 have HNe:=Zh hne
 have HU:=Zh hU
 have HP:=Zh hP
 have HLt:Hid (rb < w.heap.size):=hu1.fs.lt
 clear hG hne hr he hU hP hu1
 go_enter Tryz.func128,Tryz.ntmps128
 go_upto_region 1 with fail
 rw[← hW1]
 clear hW1
 go_wp2_with fail
 go_loopw[10] (fun x wr=>∃(i:Nat),i≤2∧x=Zi (i:Int)∧Hid (UB w wr rb rc wc ts en nest v∧∀j,j < i→nxtT ts≠sgU j)) (fun x _=>2 - (intOf x).toNat)
 case atStart=>exact⟨0,by omega,rfl,⟨HU1.out,fun j hj=>by omega⟩⟩
 case round=>
  clear HU1
  obtain⟨i,hi,rfl,HI⟩:=hrel
  by_cases hlt:i < 2
  ·have hiI:(i:Int) < 2:=by omega
   have hix:=unary_index i hlt
   have HSg:=Zh (sign_any i hlt)
   obtain⟨hu,hm⟩:=HI.out
   have HHit:Hid (nxtT ts=sgU i→G=pUI en f nest (opU i) ts):=Zh fun h=>by rw[HG.out];exact pUn_hit hlt hm h
   have HMs:Hid (nxtT ts≠sgU i→∀j,j < i+1→nxtT ts≠sgU j):=Zh fun h j hj=>by
    by_cases h2:j < i
    ·exact hm j h2
    ·obtain rfl:j=i:=by omega
     exact h
   have HC:=fun U (hU:Below wr.heap.size wr U)=>(comes_any U rb ts en nest v (sgU i) (hu.bel hU).fs.rd).mono fun e w' q=>(⟨q.1,hU.trans (q.2.mono hU.size)⟩:e=.returned (.bool (decide (nxtT ts=sgU i)))∧Below wr.heap.size wr w')
   obtain⟨op,hop⟩:=nm (opU i)
   obtain⟨sg,hsg⟩:=nm (sgU i)
   rw[← hop] at hix HSg HHit
   rw[← hsg] at HSg HHit HMs
   simp only[← hsg] at HC
   have HUr:=Zh hu
   have HSn:Hid (sg≠[]):=Zh (by
    rw[hsg]
    obtain rfl | rfl:i=0∨i=1:=by omega
    ·decide
    ·decide)
   have c0:=hu.kr
   clear hop hsg hu hm HI
   by_cases hq:nxtT ts=sg
   ·simp only[decide_eq_true hq] at HC
    have HC:=Zh HC
    have HG2:=Zh (HHit.out hq)
    have hts:ts≠[]:=fun h=>HSn.out (by rw[← hq,h];rfl)
    have HTs:=Zh hts
    have HDr:Hid (Below wr.heap.size wr wr.drew):=Zh (Grew.refl wr).drew.below
    clear hq HHit HMs hts
    go_upto_region 4 with fail
    refine wp_region_held_drew (S:=fun w9=>w9.cell? ⟨w.heap.size,0,none⟩=some (Zp rb)) (by kernel_rfl) ?_ (fun hHeld=>?_)
    ·exact c0
    refine wpAnyH_take (i:=0) (v:=Zp rb) rfl (by kernel_rfl) (by kernel_rfl) (by kernel_rfl) (fun _ _ _ h=>h) (Or.inl ⟨by rfl,by intro w hSw;(try dsimp only at hSw);go_simp⟩) (by assumption) ?_
    refine wpAnyH_take (i:=1) (v:=Zi (op:Int)) rfl (by kernel_rfl) (by kernel_rfl) (by kernel_rfl) (fun _ _ _ h=>h) (Or.inl ⟨by rfl,by intro w hSw;(try dsimp only at hSw);go_simp⟩) (by assumption) ?_
    refine wpAnyH_ready (rs:=[2]) (by kernel_rfl) (by simp) ?_
    refine AllReadyH.cons rfl (fun K hK=>?_) AllReadyH.nil
    go_simp
    refine (HSg.out _).mono ?_
    rintro e wa ⟨rfl,rfl⟩
    go_wp2_with fail
    refine hK.out _ _ (by exact c0) (fun hHeld=>?_)
    clear hK K
    refine wpAnyH_ready (rs:=[3]) (by kernel_rfl) (by simp) ?_
    refine AllReadyH.cons rfl (fun K hK=>?_) AllReadyH.nil
    go_simp
    refine (HC.out _ HDr.out).mono ?_
    rintro e w5 ⟨rfl,hb5⟩
    have hu5:=HUr.out.bel hb5
    have c1:=hu5.kr
    have c2:=hu5.kw
    have HU5:=Zh hu5
    clear hu5 c0
    go_wp2_with fail
    refine hK.out _ _ (by exact c1) (fun hHeld=>?_)
    clear hK K hHeld
    refine wpAnyH_done (by kernel_rfl) ?_ _
    clear HC HSg HDr HUr hb5 hix
    have hnx:=next_any w5 rb ts en nest v HU5.out.fs.rd
    have hO:=fun (U:World) (hU2:UB w U rb rc wc ts en nest v)=>
     openedE_any U rb ts en nest v hU2.fs.rd HTs.out hn 143 (enters_of Tryz.func143 (by kernel_rfl) rfl) #[] #[.pointer (some ⟨w.heap.size,0,none⟩),.pointer (some ⟨w.heap.size+1,0,none⟩)] (fun ns r=>pUn en f ns r) okE noB (fun k hk=>hk.elim) okE_f okE_7
      (fun hn2 V v' hV hrV=>unaryI_any HU.out V _ _ ts.tail (nest+1) v' hrV (by omega) (hU2.fs.env.t1 hV) (hV.cell hU2.kr (by have:=HLt.out;omega)) (hV.cell hU2.kw (by have:=HLt.out;omega)) (fun h=>HNe.out (by
       rw[HG2.out]
       unfold pUI pOpen
       rw[if_neg hn2]
       simp only
       rw[h]
       rfl)))
    have hg2:=HG2.out
    unfold pUI at hg2
    generalize (pOpen en nest ts fun ns r=>pUn en f ns r)=R at *
    obtain⟨p,hp⟩:=nm (nxtP en ts)
    rw[← hp] at hnx hg2
    obtain⟨pl,pc⟩:=p
    generalize nxtN ts=nv at *
    generalize nxtT ts=tx at *
    generalize nxtK ts=kd at *
    have HN:Hid (Calls Tryz.prog 106 #[Zp rb] w5 fun e w'=>e=.returned (.agg #[Zi (kd:Int),.string (S tx),Zi nv,Zi (pl:Int),Zi (pc:Int)])∧Below w5.heap.size w5 w'):=Zh hnx
    have hfl:∀w:World,(Instr.field 83 (.agg #[Zi (kd:Int),.string (S tx),Zi nv,Zi (pl:Int),Zi (pc:Int)]) 3).run Tryz.prog w=.ok (.agg #[Zi (pl:Int),Zi (pc:Int)]) w:=fun _=>by kernel_rfl
    have HG3:=Zh hg2
    have HO:=Zh hO
    clear hnx hO hg2 HG2 hp HG HNe HSn
    go_wp2_with fail
    refine HN.out.mono ?_
    clear HN
    rintro e w2 ⟨rfl,hb⟩
    obtain⟨w3,hw3⟩:=nm (w2.alloc (.cells #[Zi (pl:Int),Zi (pc:Int)] 43))
    obtain⟨BS,hBS⟩:=nm (w2.heap.size)
    have hb3:Below w2.heap.size w2 w3:=by rw[hw3];exact bel_al _ _
    have hb13:=hb.trans (hb3.mono hb.size)
    have s0:w3.cell? ⟨BS,0,none⟩=some (Zi (pl:Int)):=by rw[hw3,hBS];exact cellN _ _ _ 0 _ rfl
    have s1:w3.cell? ⟨BS,1,none⟩=some (Zi (pc:Int)):=by rw[hw3,hBS];exact cellN _ _ _ 1 _ rfl
    have HU3:=Zh (HU5.out.bel hb13)
    have HSp:Hid (w3.cell? ⟨BS,0,none⟩=some (Zi (pl:Int))∧w3.cell? ⟨BS,1,none⟩=some (Zi (pc:Int))∧w.heap.size≤BS):=Zh ⟨s0,s1,by rw[hBS];exact Nat.le_trans HU5.out.fs.ge hb.size⟩
    have HO3:=Zh (HO.out w3 HU3.out)
    have c3:=HU3.out.kr
    clear hb hb3 hb13 s0 s1 HO HU5 c1 c2
    go_upto_region 6 with fail
    rw[← hw3,← hBS]
    clear hw3 hBS hfl
    go_wp2_with fail
    refine HO3.out.mono ?_
    clear HO3 c3
    cases R with
    | er p x=>
     rintro e w7 ⟨rfl,ht⟩
     exact⟨rfl,er_fin HG3.out (HU3.out.fs.t1.trans ht)⟩
    | ok x r2=>
     rintro e w7 ⟨xv,v7,rfl,hx,hr7,ht⟩
     obtain⟨k,o,n,l,c,s,ao,q,qc,rfl⟩:=okE_7 _ _ _ _ hx
     have hlt:=HLt.out
     have hsp:=HSp.out
     obtain⟨w8,hw8⟩:=nm (w7.alloc (.cells #[Zi k,Zi o,Zi n,.string s,.slice ao q qc,Zi l,Zi c] 66))
     obtain⟨B,hB⟩:=nm (w7.heap.size)
     have hb8:Below w7.heap.size w7 w8:=by rw[hw8];exact bel_al _ _
     have hu8:=(HU3.out.call ht hr7).bel hb8
     have hbx:Row7 w8 B (Zi k) (Zi o) (Zi n) (.string s) (.slice ao q qc) (Zi l) (Zi c):=by rw[hw8,hB];exact Row7.al _ _ _ _ _ _ _ _
     have ht8:T1 rb w3 w8:=ht.trans (T1.bel hb8)
     have p0:=ht8.cell hsp.1 (by omega)
     have p1:=ht8.cell hsp.2.1 (by omega)
     obtain⟨w9,hw9⟩:=nm (w8.alloc (.cells #[Zi k,Zi o,Zi n,.string s,.slice ao q qc,Zi l,Zi c] 66))
     have hb9:Below w8.heap.size w8 w9:=by rw[hw9];exact bel_al _ _
     have hzs:=blk_lt HU3.out.z
     have hsz:=ht.size
     have hx8:=okE_mono (P':=fun k=>w.heap.size+1+1 < k) (okE_bel hx hb8) (fun k hk _=>by
      rcases hk with hk | hk
      ·exact hk.elim
      ·omega)
     have hrow:ExsC (fun k=>w.heap.size+1+1 < k) w8 [x] [Zi k,Zi o,Zi n,.string s,.slice ao q qc,Zi l,Zi c]:=okE_cons hx8 .nil
     have har:ArC (fun k=>w.heap.size+1+1 < k) w9 [x] (.slice (some ⟨w8.heap.size,0,none⟩) 1 1):=by
      rw[hw9]
      exact ArC_new hrow (fun k hk=>hk) (by have:=hb8.size;omega)
     have hu9:=hu8.bel hb9
     have p0:=(T1.bel hb9:T1 rb w8 w9).cell p0 (by omega)
     have p1:=(T1.bel hb9:T1 rb w8 w9).cell p1 (by omega)
     have HF:=Zh (res_finR HG3.out okE_f (by omega) hlt hu9.fs.t1 hu9.z (⟨_,rfl,har⟩:okE _ (.mk 6 op 0 [] [x] (pl,pc)) (.agg #[Zi 6,Zi (op:Int),Zi 0,Ze,.slice (some ⟨w8.heap.size,0,none⟩) 1 1,Zi (pl:Int),Zi (pc:Int)]) w9) (P':=New noB w.heap.size) (fun k hk=>.inr (by omega)) (fun k hk=>by omega) hu9.fs.rd)
     obtain⟨⟨x0,x1,x2,x3,x4,x5,x6⟩,_⟩:=hbx.cells
     obtain⟨_,f0,f1,f2,f3,f4,f5,f6⟩:=hu9.z.cells
     clear hx hr7 ht hlt hsp hb8 hu8 hbx ht8 hb9 hzs hsz hx8 hrow har hu9 HG3 HU3 HSp HU HP HTs HLt
     subst hw9
     go_upto_region 7 with fail
     rw[← hw8,← hB]
     clear hw8 hB
     go_wp2_with fail
     obtain⟨⟨d0,d1,d2,d3,d4,d5,d6⟩,_⟩:=HF.out.1.cells
     exact bodyPost_ret (v:=.agg #[Zi 6,Zi (op:Int),Zi 0,Ze,.slice (some ⟨w8.heap.size,0,none⟩) 1 1,Zi (pl:Int),Zi (pc:Int)]) (by simp[results,Tryz.results128,go_sem,d0,d1,d2,d3,d4,d5,d6]) rfl HF.out.2
   ·simp only[decide_eq_false hq] at HC
    have HC:=Zh HC
    have HM2:=Zh (HMs.out hq)
    have HDr:Hid (Below wr.heap.size wr wr.drew):=Zh (Grew.refl wr).drew.below
    clear hq HHit HMs HSn
    go_upto_region 4 with fail
    refine wp_region_held_drew (S:=fun w9=>w9.cell? ⟨w.heap.size,0,none⟩=some (Zp rb)) (by kernel_rfl) ?_ (fun hHeld=>?_)
    ·exact c0
    refine wpAnyH_take (i:=0) (v:=Zp rb) rfl (by kernel_rfl) (by kernel_rfl) (by kernel_rfl) (fun _ _ _ h=>h) (Or.inl ⟨by rfl,by intro w hSw;(try dsimp only at hSw);go_simp⟩) (by assumption) ?_
    refine wpAnyH_take (i:=1) (v:=Zi (op:Int)) rfl (by kernel_rfl) (by kernel_rfl) (by kernel_rfl) (fun _ _ _ h=>h) (Or.inl ⟨by rfl,by intro w hSw;(try dsimp only at hSw);go_simp⟩) (by assumption) ?_
    refine wpAnyH_ready (rs:=[2]) (by kernel_rfl) (by simp) ?_
    refine AllReadyH.cons rfl (fun K hK=>?_) AllReadyH.nil
    go_simp
    refine (HSg.out _).mono ?_
    rintro e wa ⟨rfl,rfl⟩
    go_wp2_with fail
    refine hK.out _ _ (by exact c0) (fun hHeld=>?_)
    clear hK K
    refine wpAnyH_ready (rs:=[3]) (by kernel_rfl) (by simp) ?_
    refine AllReadyH.cons rfl (fun K hK=>?_) AllReadyH.nil
    go_simp
    refine (HC.out _ HDr.out).mono ?_
    rintro e w5 ⟨rfl,hb5⟩
    have hu5:=HUr.out.bel hb5
    have c1:=hu5.kr
    have c2:=hu5.kw
    have HU5:=Zh hu5
    clear hu5 c0
    go_wp2_with fail
    refine hK.out _ _ (by exact c1) (fun hHeld=>?_)
    clear hK K hHeld
    refine wpAnyH_done (by kernel_rfl) ?_ _
    clear HC HSg HDr HUr hb5 hix
    have HI:Hid (UB w w5 rb rc wc ts en nest v∧∀j,j < i+1→nxtT ts≠sgU j):=Zh ⟨HU5.out,HM2.out⟩
    clear HU5 HM2 c1 c2
    go_wp2_with fail
    go_roundw
    case rel=>exact⟨i+1,by omega,by go_num,HI⟩
    case measure=>simp[intOf];omega
  ·have hiI:¬(i:Int) < 2:=by omega
   obtain⟨hu,hm⟩:=HI.out
   have hg:G=pPr en f nest ts:=by rw[HG.out];exact pUn_miss (fun j hj=>hm j (by omega))
   have HJ:=Zh (HP.out wr ts nest v hu.fs.rd hn hu.fs.env (by rw[← hg];exact HNe.out))
   rw[← hg] at HJ
   have c1:=hu.kr
   have c2:=hu.kw
   have HU2:=Zh hu
   clear hg hm hu HI HG HNe HU HP
   go_wp2_with fail
   refine HJ.out.mono ?_
   clear HJ c1 c2
   cases G with
   | er p x=>
    rintro e w6 ⟨rfl,ht⟩
    exact⟨rfl,er_fin rfl (HU2.out.fs.t1.trans ht)⟩
   | ok y r3=>
    rintro e w6 ⟨yv,v3,rfl,hy,hr6,ht⟩
    obtain⟨k,o,n,l,c,s,ao,q,qc,rfl⟩:=okE_7 _ _ _ _ hy
    have hlt:=HLt.out
    have hu6:=HU2.out.call ht hr6
    have h9:=blk_lt HU2.out.z
    have HF:=Zh (res_finR rfl okE_f (by omega) hlt hu6.fs.t1 hu6.z hy (P':=New noB w.heap.size) (fun k hk=>hk.imp id (fun h=>by omega)) (fun k hk=>by
       rcases hk with hk | hk
       ·exact hk.elim
       ·omega) hr6)
    obtain⟨_,y0,y1,y2,y3,y4,y5,y6⟩:=hu6.z.cells
    clear hy hr6 ht hu6 HU2 hlt h9
    go_wp2_with fail
    obtain⟨⟨d0,d1,d2,d3,d4,d5,d6⟩,_⟩:=HF.out.1.cells
    exact bodyPost_ret (v:=.agg #[Zi k,Zi o,Zi n,.string s,.slice ao q qc,Zi l,Zi c]) (by simp[results,Tryz.results128,go_sem,d0,d1,d2,d3,d4,d5,d6]) rfl HF.out.2
end Go.Proofs.YtlfooogmoigpfaaGreatDoor
