import Derived.Test.YtlfooogmoigpfaaGreatDoorQag
import Derived.Test.YtlfooogmoigpfaaGreatDoorQaa
set_option maxRecDepth 100000
set_option maxHeartbeats 8000000
namespace Go.Proofs.YtlfooogmoigpfaaGreatDoor
open Go.RowKit Go.Sort Go.Shelf
def pTI (en:Nat × Nat) (f ns:Nat) (r1:List Tok):PR (Ex × Ex):=(pWh en f ns r1).bind fun x r2=>(pMust en [44] r2).bind fun _ r3=>(pWh en f ns r3).bind fun y r4=>.ok (x,y) r4
theorem ofTwoI_any {rb rc wc:Nat} {en:Nat × Nat} {f:Nat} (hW:CW rb rc wc en f) (w:World) (pr pw:Nat) (ts:List Tok) (nest:Nat) (v:Value) (hr:RdB w rb ts en nest v) (hn:nest≤200) (he:Env w rb rc wc) (kr:w.cell? ⟨pr,0,none⟩=some (Zp rb)) (kw:w.cell? ⟨pw,0,none⟩=some (whV rc wc)) (kn:pr≠rb∧pw≠rb) (hne:pTI en f nest ts≠.er (0,0) 0) :
  Calls Tryz.prog 173 #[Zp pw,Zp pr] w (PrP w rb en nest (pTI en f nest ts) (okXY (New noB w.heap.size))):=by
 have hs1:FS w w rb rc wc ts en nest v:=FS.start hr he
 obtain⟨G,hG⟩:=nm (pTI en f nest ts)
 rw[← hG] at hne ⊢
 unfold pTI at hG
 have hp1:pWh en f nest ts≠.er (0,0) 0:=fun h=>hne (by rw[hG,h];rfl)
 have HJ:=Zh (hW w ts nest v hr hn he hp1)
 generalize pWh en f nest ts=R at *
 have HG:=Zh hG
 have HS:=Zh hs1
 have HNe:=Zh hne
 have HW:=Zh hW
 have HK:Hid (w.cell? ⟨pr,0,none⟩=some (Zp rb)∧w.cell? ⟨pw,0,none⟩=some (whV rc wc)∧pr≠rb∧pw≠rb):=Zh ⟨kr,kw,kn⟩
 clear hG hs1 hne hr he hW hp1 kr kn
 go_enter Tryz.func173,Tryz.ntmps173
 go_wp2_with fail
 refine HJ.out.mono ?_
 clear HJ kw
 cases R with
 | er p x=>
  rintro e w3 ⟨rfl,ht⟩
  exact⟨rfl,er_fin HG.out (HS.out.t1.trans ht)⟩
 | ok x r2=>
  rintro e w3 ⟨xv,v2,rfl,hx,hr3,ht⟩
  obtain⟨xk,xo,xn,xl,xc,xs,xao,xq,xqc,rfl⟩:=okE_7 _ _ _ _ hx
  have hs3:=HS.out.call ht hr3
  obtain⟨B,hB⟩:=nm (w3.heap.size)
  obtain⟨w4,hw4⟩:=nm (w3.alloc (.cells #[Zi xk,Zi xo,Zi xn,.string xs,.slice xao xq xqc,Zi xl,Zi xc] 66))
  have hb4:Below w3.heap.size w3 w4:=by rw[hw4];exact bel_al _ _
  have hB4:Row7 w4 B (Zi xk) (Zi xo) (Zi xn) (.string xs) (.slice xao xq xqc) (Zi xl) (Zi xc):=by rw[hw4,hB];exact Row7.al _ _ _ _ _ _ _ _
  have ht4:T1 rb w w4:=ht.trans (T1.bel hb4)
  have HS4:=Zh (hs3.bel hb4)
  have HX4:=Zh (okE_mono (P':=fun k=>w.heap.size≤k) (okE_bel hx hb4) (fun k hk _=>by
   rcases hk with hk | hk
   ·exact hk.elim
   ·exact hk))
  have kr4:=ht4.cell HK.out.1 HK.out.2.2.1
  have kw4:=ht4.cell HK.out.2.1 HK.out.2.2.2
  have HB4:=Zh hB4
  have HK4:=Zh kw4
  have HBg:Hid (w.heap.size≤B∧rb < w.heap.size):=Zh ⟨by rw[hB];exact ht.size,hs3.lt⟩
  have HM:=must_any w4 rb r2 en nest v2 [44] (by decide) HS4.out.rd
  have hg:=HG.out
  rw[PR.bind_ok] at hg
  generalize pMust en [44] r2=M at *
  have HM:Hid (Calls Tryz.prog 46 #[Zp rb,.string ⟨#[44]⟩] w4 (PrP w4 rb en nest M fun _ v _=>v=.tuple #[])):=Zh HM
  have HG2:=Zh hg
  clear hx hr3 ht hs3 hb4 hB4 ht4 HS HG hg kw4
  go_upto_region 2 with fail
  rw[← hw4,← hB]
  clear hw4 hB
  go_wp2_with fail
  refine HM.out.mono ?_
  clear HM kr4
  cases M with
  | er p x=>
   rintro e w5 ⟨rfl,ht⟩
   exact⟨rfl,er_fin HG2.out (HS4.out.t1.trans ht)⟩
  | ok u r3=>
   rintro e w5 ⟨_,v3,rfl,rfl,hr5,ht⟩
   have HS5:=Zh (HS4.out.call ht hr5)
   have HX5:=Zh (okE_t1 HX4.out ht (fun k hk=>by have:=HBg.out;omega))
   have hb5:=HB4.out.t1 ht (by have:=HBg.out;omega)
   have c5:=ht.cell HK4.out HK.out.2.2.2
   have hg:=HG2.out
   rw[PR.bind_ok] at hg
   have hp1:pWh en f nest r3≠.er (0,0) 0:=fun h=>HNe.out (by rw[hg,h];rfl)
   have hbd:Below w5.heap.size w5 w5.drew:=(Grew.refl w5).drew.below
   have hsd:=HS5.out.bel hbd
   have HJ:=Zh (HW.out w5.drew r3 nest v3 hsd.rd hn hsd.env hp1)
   have HTd:Hid (T1 rb w5 w5.drew):=Zh (T1.bel hbd)
   generalize pWh en f nest r3=R at *
   have HG3:=Zh hg
   have HB5:=Zh hb5
   have HC5:=Zh c5
   obtain⟨⟨x0,x1,x2,x3,x4,x5,x6⟩,_⟩:=hb5.cells
   clear hr5 ht hp1 hg HS4 HX4 HB4 HK4 HG2 hbd hsd hb5
   go_upto_region 3 with fail
   refine wp_region_held_drew (S:=fun w9=>w9.cell? ⟨B,0,none⟩=some (Zi xk)∧w9.cell? ⟨B,1,none⟩=some (Zi xo)∧w9.cell? ⟨B,2,none⟩=some (Zi xn)∧w9.cell? ⟨B,3,none⟩=some (.string xs)∧w9.cell? ⟨B,4,none⟩=some (.slice xao xq xqc)∧w9.cell? ⟨B,5,none⟩=some (Zi xl)∧w9.cell? ⟨B,6,none⟩=some (Zi xc)∧w9.cell? ⟨pw,0,none⟩=some (whV rc wc)) (by kernel_rfl) ?_ (fun hHeld=>?_)
   ·exact⟨x0,x1,x2,x3,x4,x5,x6,c5⟩
   refine wpAnyH_take (i:=0) (v:=.agg #[Zi xk,Zi xo,Zi xn,.string xs,.slice xao xq xqc,Zi xl,Zi xc]) rfl (by kernel_rfl) (by kernel_rfl) (by kernel_rfl) (fun _ _ _ h=>h) (Or.inl ⟨by rfl,by intro w hSw;(try dsimp only at hSw);go_simp⟩) (by assumption) ?_
   refine wpAnyH_take (i:=1) (v:=whV rc wc) rfl (by kernel_rfl) (by kernel_rfl) (by kernel_rfl) (fun _ _ _ h=>h) (Or.inl ⟨by rfl,by intro w hSw;(try dsimp only at hSw);go_simp⟩) (by assumption) ?_
   refine wpAnyH_ready (rs:=[2]) (by kernel_rfl) (by simp) ?_
   refine AllReadyH.cons rfl (fun K hK=>?_) AllReadyH.nil
   go_simp
   refine HJ.out.mono ?_
   clear HJ c5 x0 x1 x2 x3 x4 x5 x6
   cases R with
   | er p x=>
    rintro e w6 ⟨rfl,ht⟩
    exact⟨rfl,er_fin HG3.out (HS5.out.t1.trans (HTd.out.trans ht))⟩
   | ok y r4=>
    rintro e w6 ⟨yv,v4,rfl,hy,hr6,ht⟩
    obtain⟨yk,yo,yn,yl,yc,ys,yao,yq,yqc,rfl⟩:=okE_7 _ _ _ _ hy
    have ht6:T1 rb w5 w6:=HTd.out.trans ht
    have hs6:=HS5.out.call ht6 hr6
    have hb6:=HB5.out.t1 ht6 (by have:=HBg.out;omega)
    have c6:=ht6.cell HC5.out HK.out.2.2.2
    have hx6:=okE_t1 HX5.out ht6 (fun k hk=>by have:=HBg.out;omega)
    have hy6:=okE_mono (P':=fun k=>w.heap.size≤k) hy (fun k hk _=>by
     rcases hk with hk | hk
     ·exact hk.elim
     ·have:=HS5.out.ge;have:=HTd.out.size;omega)
    have hrow:ExsC (fun k=>w.heap.size≤k) w6 [x,y] [Zi xk,Zi xo,Zi xn,.string xs,.slice xao xq xqc,Zi xl,Zi xc,Zi yk,Zi yo,Zi yn,.string ys,.slice yao yq yqc,Zi yl,Zi yc]:=okE_cons hx6 (okE_cons hy6 .nil)
    have hal:=bel_al w6 (.cells #[Zi xk,Zi xo,Zi xn,.string xs,.slice xao xq xqc,Zi xl,Zi xc,Zi yk,Zi yo,Zi yn,.string ys,.slice yao yq yqc,Zi yl,Zi yc] 66)
    have har:=ArC_new (P':=New noB w.heap.size) hrow (fun k hk=>.inr hk) (.inr hs6.ge)
    have hs7:=hs6.bel hal
    have HF:Hid (PrP w rb en nest G (okXY (New noB w.heap.size)) (.returned (.slice (some ⟨w6.heap.size,0,none⟩) 2 2)) (w6.alloc (.cells #[Zi xk,Zi xo,Zi xn,.string xs,.slice xao xq xqc,Zi xl,Zi xc,Zi yk,Zi yo,Zi yn,.string ys,.slice yao yq yqc,Zi yl,Zi yc] 66))):=Zh (by
     rw[HG3.out]
     exact⟨_,v4,rfl,har,hs7.rd,hs7.t1⟩)
    have hb7:=hb6.kept hal
    have c7:=(hal.cell (cell_lt c6)).trans c6
    obtain⟨⟨x0,x1,x2,x3,x4,x5,x6⟩,_⟩:=hb6.cells
    obtain⟨⟨z0,z1,z2,z3,z4,z5,z6⟩,_⟩:=hb7.cells
    clear hy hr6 ht ht6 hs6 hb6 hx6 hy6 hrow hal har hs7 hb7 HG3 HS5 HX5 HB5 HC5 HTd HBg
    go_wp2_with fail
    refine hK.out _ _ (by exact⟨x0,x1,x2,x3,x4,x5,x6,c6⟩) (fun hHeld=>?_)
    clear hK K
    refine wpAnyH_ready (rs:=[3]) (by kernel_rfl) (by simp) ?_
    refine AllReadyH.cons rfl (fun K hK=>?_) AllReadyH.nil
    go_simp
    refine hK.out _ _ (by exact⟨z0,z1,z2,z3,z4,z5,z6,c7⟩) (fun hHeld=>?_)
    clear hK K
    refine wpAnyH_take (i:=4) (v:=.slice (some ⟨w6.heap.size,0,none⟩) 2 2) rfl (by kernel_rfl) (by kernel_rfl) (by kernel_rfl) (fun _ _ _ h=>h) (Or.inl ⟨by rfl,by intro w hSw;(try dsimp only at hSw);go_simp⟩) (by assumption) ?_
    refine wpAnyH_done (by kernel_rfl) ?_ _
    clear x0 x1 x2 x3 x4 x5 x6 z0 z1 z2 z3 z4 z5 z6 c6 c7 hHeld
    go_wp2_with fail
    exact bodyPost_ret (v:=.slice (some ⟨w6.heap.size,0,none⟩) 2 2) (by simp[results,Tryz.results173,go_sem]) rfl HF.out
def pBT (en:Nat × Nat) (f nest:Nat) (r:List Tok):PR (Ex × Ex):=pBr en nest [40] [41] r fun ns r1=>pTI en f ns r1
theorem pTwo_max (en:Nat × Nat) (f nest:Nat) (ts:List Tok) (h:nxtT ts=wMax):pTwo en f nest ts=(pMust en wMax ts).bind fun _ r=>(pBT en f nest r).bind fun xy r5=>.ok (.mk 7 29 0 [] [xy.1,xy.2] (0,0)) r5:=by
 unfold pTwo pBT pTI
 simp only[if_pos h]
theorem pTwo_min (en:Nat × Nat) (f nest:Nat) (ts:List Tok) (h:¬nxtT ts=wMax):pTwo en f nest ts=(pMust en wMin ts).bind fun _ r=>(pBT en f nest r).bind fun xy r5=>.ok (.mk 7 28 0 [] [xy.1,xy.2] (0,0)) r5:=by
 unfold pTwo pBT pTI
 simp only[if_neg h]
theorem ofTwoMax_any {rb rc wc:Nat} {en:Nat × Nat} {f:Nat} (hW:CW rb rc wc en f) (w:World) (ts:List Tok) (nest:Nat) (v:Value) (hr:RdB w rb ts en nest v) (hn:nest≤200) (he:Env w rb rc wc) (hq:nxtT ts=wMax) (hne:pTwo en f nest ts≠.er (0,0) 0) :
  Calls Tryz.prog 161 #[Zp rb,whV rc wc] w (PrP w rb en nest (pTwo en f nest ts) (okE (New noB w.heap.size))):=by
 have hu1:=UB.start hr he
 obtain⟨W1,hW1⟩:=nm (((w.alloc (.cells #[Zp rb] 101)).alloc (.cells #[whV rc wc] 91)).alloc (.cells #[Zi 0,Zi 0,Zi 0,Ze,Zn,Zi 0,Zi 0] 66))
 rw[← hW1] at hu1
 obtain⟨G,hG⟩:=nm (pTwo en f nest ts)
 rw[← hG] at hne ⊢
 rw[pTwo_max en f nest ts hq] at hG
 have hd:Below W1.heap.size W1 W1.drew:=(Grew.refl W1).drew.below
 have HC:=(comes_any W1.drew rb ts en nest v wMax (hu1.bel hd).fs.rd).mono fun e w' q=>(⟨q.1,hd.trans (q.2.mono hd.size)⟩:e=.returned (.bool (decide (nxtT ts=wMax)))∧Below W1.heap.size W1 w')
 rw[decide_eq_true hq] at HC
 have HC:=Zh HC
 have HM:=fun (U:World) (hU:UB w U rb rc wc ts en nest v)=>must_any U rb ts en nest v wMax (by decide) hU.fs.rd
 generalize pMust en wMax ts=M at *
 have HM:=Zh HM
 have HG:=Zh hG
 have HU1:=Zh hu1
 have HNe:=Zh hne
 have HW:=Zh hW
 have HLt:Hid (rb < w.heap.size):=hu1.fs.lt
 have HWd:=Zh (wordMax_any)
 have HW0:=Zh (wordMax_any W1.drew)
 have c1:=hu1.kr
 clear hG hne hr he hW hu1 hq hd
 go_enter Tryz.func161,Tryz.ntmps161
 go_upto_region 1 with fail
 rw[← hW1]
 clear hW1
 go_upto_region 2 with fail
 refine wp_region_held_drew (S:=fun w9=>w9.cell? ⟨w.heap.size,0,none⟩=some (Zp rb)) (by kernel_rfl) ?_ (fun hHeld=>?_)
 ·exact c1
 refine wpAnyH_take (i:=0) (v:=Zp rb) rfl (by kernel_rfl) (by kernel_rfl) (by kernel_rfl) (fun _ _ _ h=>h) (Or.inl ⟨by rfl,by intro w hSw;(try dsimp only at hSw);go_simp⟩) (by assumption) ?_
 refine wpAnyH_ready (rs:=[1]) (by kernel_rfl) (by simp) ?_
 refine AllReadyH.cons rfl (fun K hK=>?_) AllReadyH.nil
 go_simp
 refine HW0.out.mono ?_
 rintro e wa ⟨rfl,rfl⟩
 go_wp2_with fail
 refine hK.out _ _ (by exact c1) (fun hHeld=>?_)
 clear hK K
 refine wpAnyH_ready (rs:=[2]) (by kernel_rfl) (by simp) ?_
 refine AllReadyH.cons rfl (fun K hK=>?_) AllReadyH.nil
 go_simp
 refine HC.out.mono ?_
 rintro e w5 ⟨rfl,hb5⟩
 have hu5:=HU1.out.bel hb5
 have c5:=hu5.kr
 have HU5:=Zh hu5
 clear hu5 c1 HU1 HC HW0 hb5
 go_wp2_with fail
 refine hK.out _ _ (by exact c5) (fun hHeld=>?_)
 clear hK K hHeld
 refine wpAnyH_done (by kernel_rfl) ?_ _
 have hd:Below w5.heap.size w5 w5.drew:=(Grew.refl w5).drew.below
 have HU6:=Zh (HU5.out.bel hd)
 have HM6:=Zh (HM.out w5.drew HU6.out)
 clear hd HM
 go_upto_region 4 with fail
 refine wp_region_held_drew (S:=fun w9=>w9.cell? ⟨w.heap.size,0,none⟩=some (Zp rb)) (by kernel_rfl) ?_ (fun hHeld=>?_)
 ·exact c5
 refine wpAnyH_take (i:=0) (v:=Zp rb) rfl (by kernel_rfl) (by kernel_rfl) (by kernel_rfl) (fun _ _ _ h=>h) (Or.inl ⟨by rfl,by intro w hSw;(try dsimp only at hSw);go_simp⟩) (by assumption) ?_
 refine wpAnyH_take (i:=1) (v:=Zi 29) rfl (by kernel_rfl) (by kernel_rfl) (by kernel_rfl) (fun _ _ _ h=>h) (Or.inl ⟨by rfl,by intro w hSw;(try dsimp only at hSw);go_simp⟩) (by assumption) ?_
 refine wpAnyH_ready (rs:=[2]) (by kernel_rfl) (by simp) ?_
 refine AllReadyH.cons rfl (fun K hK=>?_) AllReadyH.nil
 go_simp
 refine (HWd.out _).mono ?_
 rintro e wa ⟨rfl,rfl⟩
 go_wp2_with fail
 refine hK.out _ _ (by exact c5) (fun hHeld=>?_)
 clear hK K
 refine wpAnyH_ready (rs:=[3]) (by kernel_rfl) (by simp) ?_
 refine AllReadyH.cons rfl (fun K hK=>?_) AllReadyH.nil
 go_simp
 refine HM6.out.mono ?_
 clear HM6 HWd
 cases M with
 | er p x=>
  rintro e w7 ⟨rfl,ht⟩
  exact⟨rfl,er_fin HG.out (HU6.out.fs.t1.trans ht)⟩
 | ok u r=>
  rintro e w7 ⟨_,v7,rfl,rfl,hr7,ht⟩
  have HU7:=Zh (HU6.out.call ht hr7)
  have c7:=HU7.out.kr
  have hg:=HG.out
  rw[PR.bind_ok] at hg
  have hO:=bracketedEs_any w7 rb r en nest v7 HU7.out.fs.rd [40] [41] (by decide) (by decide) hn 173 (enters_of Tryz.func173 (by kernel_rfl) rfl) #[] #[.pointer (some ⟨w.heap.size+1,0,none⟩),.pointer (some ⟨w.heap.size,0,none⟩)] (fun ns r1=>pTI en f ns r1) okXY noB (fun k hk=>hk.elim) okXY_f okXY_s
   (fun hq hn2 V v' hV hrV=>ofTwoI_any HW.out V w.heap.size (w.heap.size+1) r.tail (nest+1) v' hrV (by omega) (HU7.out.fs.env.t1 hV) (hV.cell HU7.out.kr (by have:=HLt.out;omega)) (hV.cell HU7.out.kw (by have:=HLt.out;omega)) (by have:=HLt.out;omega) (fun h=>HNe.out (by
    rw[hg]
    unfold pBT pBr pOpen
    rw[if_pos hq,if_neg hn2]
    simp only
    rw[h]
    rfl)))
  have hb:(pBr en nest [40] [41] r fun ns r1=>pTI en f ns r1)=pBT en f nest r:=rfl
  rw[hb] at hO
  generalize pBT en f nest r=R at *
  have HG2:=Zh hg
  have HO:Hid (Calls Tryz.prog 172 #[Zp rb,.string ⟨#[40]⟩,.string ⟨#[41]⟩,.func (.func 173) #[] #[.pointer (some ⟨w.heap.size+1,0,none⟩),.pointer (some ⟨w.heap.size,0,none⟩)]] w7 (PrP w7 rb en nest R (okXY (New noB w7.heap.size)))):=Zh hO
  clear hr7 ht hO hg hb HG HNe HU5 HU6
  go_wp2_with fail
  refine hK.out _ _ (by exact c7) (fun hHeld=>?_)
  clear hK K hHeld
  refine wpAnyH_done (by kernel_rfl) ?_ _
  go_wp2_with fail
  refine HO.out.mono ?_
  clear HO c5 c7
  cases R with
  | er p x=>
   rintro e w8 ⟨rfl,ht⟩
   exact⟨rfl,er_fin HG2.out (HU7.out.fs.t1.trans ht)⟩
  | ok xy r2=>
   rintro e w8 ⟨xv,v8,rfl,hx,hr8,ht⟩
   obtain⟨ao,q,qc,rfl⟩:=okXY_s _ _ _ _ hx
   have hu8:=HU7.out.call ht hr8
   have hzs:=blk_lt HU7.out.z
   have HF:=Zh (res_finR HG2.out okE_f (by omega) HLt.out hu8.fs.t1 hu8.z (⟨_,rfl,hx⟩:okE _ (.mk 7 29 0 [] [xy.1,xy.2] (0,0)) (.agg #[Zi 7,Zi 29,Zi 0,Ze,.slice ao q qc,Zi 0,Zi 0]) w8) (P':=New noB w.heap.size) (fun k hk=>hk.imp id (fun h=>by omega)) (fun k hk=>by
    rcases hk with hk | hk
    ·exact hk.elim
    ·omega) hu8.fs.rd)
   obtain⟨_,f0,f1,f2,f3,f4,f5,f6⟩:=hu8.z.cells
   clear hx hr8 ht hu8 hzs HG2 HU7 HLt HW
   go_wp2_with fail
   obtain⟨⟨d0,d1,d2,d3,d4,d5,d6⟩,_⟩:=HF.out.1.cells
   exact bodyPost_ret (v:=.agg #[Zi 7,Zi 29,Zi 0,Ze,.slice ao q qc,Zi 0,Zi 0]) (by simp[results,Tryz.results161,go_sem,d0,d1,d2,d3,d4,d5,d6]) rfl HF.out.2
theorem ofTwoMin_any {rb rc wc:Nat} {en:Nat × Nat} {f:Nat} (hW:CW rb rc wc en f) (w:World) (ts:List Tok) (nest:Nat) (v:Value) (hr:RdB w rb ts en nest v) (hn:nest≤200) (he:Env w rb rc wc) (hq:¬nxtT ts=wMax) (hne:pTwo en f nest ts≠.er (0,0) 0) :
  Calls Tryz.prog 161 #[Zp rb,whV rc wc] w (PrP w rb en nest (pTwo en f nest ts) (okE (New noB w.heap.size))):=by
 have hu1:=UB.start hr he
 obtain⟨W1,hW1⟩:=nm (((w.alloc (.cells #[Zp rb] 101)).alloc (.cells #[whV rc wc] 91)).alloc (.cells #[Zi 0,Zi 0,Zi 0,Ze,Zn,Zi 0,Zi 0] 66))
 rw[← hW1] at hu1
 obtain⟨G,hG⟩:=nm (pTwo en f nest ts)
 rw[← hG] at hne ⊢
 rw[pTwo_min en f nest ts hq] at hG
 have hd:Below W1.heap.size W1 W1.drew:=(Grew.refl W1).drew.below
 have HC:=(comes_any W1.drew rb ts en nest v wMax (hu1.bel hd).fs.rd).mono fun e w' q=>(⟨q.1,hd.trans (q.2.mono hd.size)⟩:e=.returned (.bool (decide (nxtT ts=wMax)))∧Below W1.heap.size W1 w')
 rw[decide_eq_false hq] at HC
 have HC:=Zh HC
 have HM:=fun (U:World) (hU:UB w U rb rc wc ts en nest v)=>must_any U rb ts en nest v wMin (by decide) hU.fs.rd
 generalize pMust en wMin ts=M at *
 have HM:=Zh HM
 have HG:=Zh hG
 have HU1:=Zh hu1
 have HNe:=Zh hne
 have HW:=Zh hW
 have HLt:Hid (rb < w.heap.size):=hu1.fs.lt
 have HWd:=Zh (wordMin_any)
 have HW0:=Zh (wordMax_any W1.drew)
 have c1:=hu1.kr
 clear hG hne hr he hW hu1 hq hd
 go_enter Tryz.func161,Tryz.ntmps161
 go_upto_region 1 with fail
 rw[← hW1]
 clear hW1
 go_upto_region 2 with fail
 refine wp_region_held_drew (S:=fun w9=>w9.cell? ⟨w.heap.size,0,none⟩=some (Zp rb)) (by kernel_rfl) ?_ (fun hHeld=>?_)
 ·exact c1
 refine wpAnyH_take (i:=0) (v:=Zp rb) rfl (by kernel_rfl) (by kernel_rfl) (by kernel_rfl) (fun _ _ _ h=>h) (Or.inl ⟨by rfl,by intro w hSw;(try dsimp only at hSw);go_simp⟩) (by assumption) ?_
 refine wpAnyH_ready (rs:=[1]) (by kernel_rfl) (by simp) ?_
 refine AllReadyH.cons rfl (fun K hK=>?_) AllReadyH.nil
 go_simp
 refine HW0.out.mono ?_
 rintro e wa ⟨rfl,rfl⟩
 go_wp2_with fail
 refine hK.out _ _ (by exact c1) (fun hHeld=>?_)
 clear hK K
 refine wpAnyH_ready (rs:=[2]) (by kernel_rfl) (by simp) ?_
 refine AllReadyH.cons rfl (fun K hK=>?_) AllReadyH.nil
 go_simp
 refine HC.out.mono ?_
 rintro e w5 ⟨rfl,hb5⟩
 have hu5:=HU1.out.bel hb5
 have c5:=hu5.kr
 have HU5:=Zh hu5
 clear hu5 c1 HU1 HC HW0 hb5
 go_wp2_with fail
 refine hK.out _ _ (by exact c5) (fun hHeld=>?_)
 clear hK K hHeld
 refine wpAnyH_done (by kernel_rfl) ?_ _
 have hd:Below w5.heap.size w5 w5.drew:=(Grew.refl w5).drew.below
 have HU6:=Zh (HU5.out.bel hd)
 have HM6:=Zh (HM.out w5.drew HU6.out)
 clear hd HM
 go_upto_region 4 with fail
 refine wp_region_held_drew (S:=fun w9=>w9.cell? ⟨w.heap.size,0,none⟩=some (Zp rb)) (by kernel_rfl) ?_ (fun hHeld=>?_)
 ·exact c5
 refine wpAnyH_take (i:=0) (v:=Zp rb) rfl (by kernel_rfl) (by kernel_rfl) (by kernel_rfl) (fun _ _ _ h=>h) (Or.inl ⟨by rfl,by intro w hSw;(try dsimp only at hSw);go_simp⟩) (by assumption) ?_
 refine wpAnyH_take (i:=1) (v:=Zi 28) rfl (by kernel_rfl) (by kernel_rfl) (by kernel_rfl) (fun _ _ _ h=>h) (Or.inl ⟨by rfl,by intro w hSw;(try dsimp only at hSw);go_simp⟩) (by assumption) ?_
 refine wpAnyH_ready (rs:=[2]) (by kernel_rfl) (by simp) ?_
 refine AllReadyH.cons rfl (fun K hK=>?_) AllReadyH.nil
 go_simp
 refine (HWd.out _).mono ?_
 rintro e wa ⟨rfl,rfl⟩
 go_wp2_with fail
 refine hK.out _ _ (by exact c5) (fun hHeld=>?_)
 clear hK K
 refine wpAnyH_ready (rs:=[3]) (by kernel_rfl) (by simp) ?_
 refine AllReadyH.cons rfl (fun K hK=>?_) AllReadyH.nil
 go_simp
 refine HM6.out.mono ?_
 clear HM6 HWd
 cases M with
 | er p x=>
  rintro e w7 ⟨rfl,ht⟩
  exact⟨rfl,er_fin HG.out (HU6.out.fs.t1.trans ht)⟩
 | ok u r=>
  rintro e w7 ⟨_,v7,rfl,rfl,hr7,ht⟩
  have HU7:=Zh (HU6.out.call ht hr7)
  have c7:=HU7.out.kr
  have hg:=HG.out
  rw[PR.bind_ok] at hg
  have hO:=bracketedEs_any w7 rb r en nest v7 HU7.out.fs.rd [40] [41] (by decide) (by decide) hn 173 (enters_of Tryz.func173 (by kernel_rfl) rfl) #[] #[.pointer (some ⟨w.heap.size+1,0,none⟩),.pointer (some ⟨w.heap.size,0,none⟩)] (fun ns r1=>pTI en f ns r1) okXY noB (fun k hk=>hk.elim) okXY_f okXY_s
   (fun hq hn2 V v' hV hrV=>ofTwoI_any HW.out V w.heap.size (w.heap.size+1) r.tail (nest+1) v' hrV (by omega) (HU7.out.fs.env.t1 hV) (hV.cell HU7.out.kr (by have:=HLt.out;omega)) (hV.cell HU7.out.kw (by have:=HLt.out;omega)) (by have:=HLt.out;omega) (fun h=>HNe.out (by
    rw[hg]
    unfold pBT pBr pOpen
    rw[if_pos hq,if_neg hn2]
    simp only
    rw[h]
    rfl)))
  have hb:(pBr en nest [40] [41] r fun ns r1=>pTI en f ns r1)=pBT en f nest r:=rfl
  rw[hb] at hO
  generalize pBT en f nest r=R at *
  have HG2:=Zh hg
  have HO:Hid (Calls Tryz.prog 172 #[Zp rb,.string ⟨#[40]⟩,.string ⟨#[41]⟩,.func (.func 173) #[] #[.pointer (some ⟨w.heap.size+1,0,none⟩),.pointer (some ⟨w.heap.size,0,none⟩)]] w7 (PrP w7 rb en nest R (okXY (New noB w7.heap.size)))):=Zh hO
  clear hr7 ht hO hg hb HG HNe HU5 HU6
  go_wp2_with fail
  refine hK.out _ _ (by exact c7) (fun hHeld=>?_)
  clear hK K hHeld
  refine wpAnyH_done (by kernel_rfl) ?_ _
  go_wp2_with fail
  refine HO.out.mono ?_
  clear HO c5 c7
  cases R with
  | er p x=>
   rintro e w8 ⟨rfl,ht⟩
   exact⟨rfl,er_fin HG2.out (HU7.out.fs.t1.trans ht)⟩
  | ok xy r2=>
   rintro e w8 ⟨xv,v8,rfl,hx,hr8,ht⟩
   obtain⟨ao,q,qc,rfl⟩:=okXY_s _ _ _ _ hx
   have hu8:=HU7.out.call ht hr8
   have hzs:=blk_lt HU7.out.z
   have HF:=Zh (res_finR HG2.out okE_f (by omega) HLt.out hu8.fs.t1 hu8.z (⟨_,rfl,hx⟩:okE _ (.mk 7 28 0 [] [xy.1,xy.2] (0,0)) (.agg #[Zi 7,Zi 28,Zi 0,Ze,.slice ao q qc,Zi 0,Zi 0]) w8) (P':=New noB w.heap.size) (fun k hk=>hk.imp id (fun h=>by omega)) (fun k hk=>by
    rcases hk with hk | hk
    ·exact hk.elim
    ·omega) hu8.fs.rd)
   obtain⟨_,f0,f1,f2,f3,f4,f5,f6⟩:=hu8.z.cells
   clear hx hr8 ht hu8 hzs HG2 HU7 HLt HW
   go_wp2_with fail
   obtain⟨⟨d0,d1,d2,d3,d4,d5,d6⟩,_⟩:=HF.out.1.cells
   exact bodyPost_ret (v:=.agg #[Zi 7,Zi 28,Zi 0,Ze,.slice ao q qc,Zi 0,Zi 0]) (by simp[results,Tryz.results161,go_sem,d0,d1,d2,d3,d4,d5,d6]) rfl HF.out.2
theorem ofTwo_any {rb rc wc:Nat} {en:Nat × Nat} {f:Nat} (hW:CW rb rc wc en f):CTwo rb rc wc en f:=by
 intro U ts nest v hr hn he hne
 by_cases hq:nxtT ts=wMax
 ·exact ofTwoMax_any hW U ts nest v hr hn he hq hne
 ·exact ofTwoMin_any hW U ts nest v hr hn he hq hne
theorem calledX_any {rb rc wc:Nat} {en:Nat × Nat} {f:Nat} (hW:CW rb rc wc en f) (w:World) (ts:List Tok) (nest:Nat) (v:Value) (hr:RdB w rb ts en nest v) (hn:nest≤200) (he:Env w rb rc wc) (hq:nxtT ts=wGet) (hq2:nxtT ts.tail=[91]) (hne:pCa en f nest ts≠.er (0,0) 0) :
  Calls Tryz.prog 152 #[Zp rb,whV rc wc] w (PrP w rb en nest (pCa en f nest ts) (okE (New noB w.heap.size))):=by
 obtain⟨W1,hW1⟩:=nm (w.alloc (.cells #[Zi 0,Zi 0,Zi 0,Ze,Zn,Zi 0,Zi 0] 66))
 have hs1:FS w W1 rb rc wc ts en nest v:=by rw[hW1];exact (FS.start hr he).al _
 have hz1:z7 W1 w.heap.size:=by rw[hW1];exact Row7.al _ _ _ _ _ _ _ _
 obtain⟨G,hG⟩:=nm (pCa en f nest ts)
 rw[← hG] at hne ⊢
 unfold pCa at hG
 rw[if_pos hq,if_pos hq2] at hG
 have HT:=takes_any W1 rb ts en nest v wGet (by decide) hs1.rd
 rw[decide_eq_true hq,if_pos hq] at HT
 have HT:Hid (Calls Tryz.prog 44 #[Zp rb,.string ⟨#[103,101,116]⟩] W1 fun e w'=>e=.returned (.bool true)∧T1 rb W1 w'∧∃v',RdB w' rb ts.tail en nest v'):=Zh HT
 have HC:=fun U v' (h:RdB U rb ts.tail en nest v')=>comes_any U rb ts.tail en nest v' [91] h
 simp only[decide_eq_true hq2] at HC
 have HC:Hid (∀U v',RdB U rb ts.tail en nest v'→Calls Tryz.prog 78 #[Zp rb,.string ⟨#[91]⟩] U fun e w'=>e=.returned (.bool true)∧Below U.heap.size U w'):=Zh HC
 have HB:Hid (∀U v',FS w U rb rc wc ts.tail en nest v'→Calls Tryz.prog 151 #[Zp rb,.string ⟨#[91]⟩,.string ⟨#[93]⟩,whV rc wc] U (PrP U rb en nest (pBr en nest [91] [93] ts.tail fun ns r=>pWh en f ns r) (okE (New noB U.heap.size)))):=Zh fun U v' hU=>
  bracketedE_any U rb ts.tail en nest v' hU.rd [91] [93] (by decide) (by decide) hn 107 (enters_of Tryz.func107 (by kernel_rfl) rfl) #[] #[Zp rc,Zp wc] (fun ns r=>pWh en f ns r) okE noB (fun k hk=>hk.elim) okE_f okE_7
   (fun hq hn2 V v2 hV hrV=>(hW V ts.tail.tail (nest+1) v2 hrV (by omega) (hU.env.t1 hV) (fun h=>hne (by
    rw[hG]
    unfold pBr pOpen
    rw[if_pos hq,if_neg hn2]
    simp only
    rw[h]
    rfl))))
 generalize (pBr en nest [91] [93] ts.tail fun ns r=>pWh en f ns r)=R at *
 have HG:=Zh hG
 have HS:=Zh hs1
 have HZ:=Zh hz1
 have HWs:Hid (w.heap.size < W1.heap.size):=blk_lt hz1
 clear hG hs1 hz1 hne hr he hW hq hq2
 go_enter Tryz.func152,Tryz.ntmps152
 go_upto_region 1 with fail
 rw[← hW1]
 clear hW1
 go_wp2_with fail
 refine HT.out.mono ?_
 clear HT
 rintro e w2 ⟨rfl,ht2,v2,hr2⟩
 have hs2:=HS.out.call ht2 hr2
 have HZ2:=Zh (HZ.out.t1 ht2 (by have:=hs2.lt;omega))
 have HC2:=Zh (HC.out w2 v2 hr2)
 have HS2:=Zh hs2
 clear HS HZ HC hs2 ht2 hr2
 go_wp2_with fail
 refine HC2.out.mono ?_
 clear HC2
 rintro e w3 ⟨rfl,hb3⟩
 have HS3:=Zh (HS2.out.bel hb3)
 have HZ3:=Zh (HZ2.out.kept hb3)
 have HB3:=Zh (HB.out w3 v2 HS3.out)
 clear HS2 HZ2 HB hb3
 go_wp2_with fail
 refine HB3.out.mono ?_
 clear HB3
 cases R with
 | er p x=>
  rintro e w4 ⟨rfl,ht⟩
  exact⟨rfl,er_fin HG.out (HS3.out.t1.trans ht)⟩
 | ok x r2=>
  rintro e w4 ⟨xv,v4,rfl,hx,hr4,ht⟩
  obtain⟨k,o,n,l,c,s,ao,q,qc,rfl⟩:=okE_7 _ _ _ _ hx
  have hs4:=HS3.out.call ht hr4
  have hlt:=hs4.lt
  have hz4:=HZ3.out.t1 ht (by omega)
  obtain⟨w5,hw5⟩:=nm (w4.alloc (.cells #[Zi k,Zi o,Zi n,.string s,.slice ao q qc,Zi l,Zi c] 66))
  have hb5:Below w4.heap.size w4 w5:=by rw[hw5];exact bel_al _ _
  have hrow:ExsC (New noB w3.heap.size) w4 [x] [Zi k,Zi o,Zi n,.string s,.slice ao q qc,Zi l,Zi c]:=okE_cons hx .nil
  have har:ArC (fun k=>w3.heap.size≤k) w5 [x] (.slice (some ⟨w4.heap.size,0,none⟩) 1 1):=by
   rw[hw5]
   exact ArC_new hrow (fun k hk=>hk.elim (fun h=>h.elim) id) ht.size
  have hs5:=hs4.bel hb5
  have hz5:=hz4.kept hb5
  have hzs:=blk_lt HZ3.out
  have HF:=Zh (res_fin HG.out okE_f hlt hs5.t1 hz5 (⟨_,rfl,har⟩:okE _ (.mk 5 0 0 [] [x] (0,0)) (.agg #[Zi 5,Zi 0,Zi 0,Ze,.slice (some ⟨w4.heap.size,0,none⟩) 1 1,Zi 0,Zi 0]) w5) (P':=New noB w.heap.size) (fun k hk=>.inr (by omega)) (fun k hk=>by omega) hs5.rd)
  obtain⟨_,f0,f1,f2,f3,f4,f5,f6⟩:=hz5.cells
  clear hx hr4 ht hs4 hlt hz4 hb5 hrow har hs5 hz5 hzs HG HS3 HZ3 HWs
  subst hw5
  go_wp2_with fail
  obtain⟨⟨d0,d1,d2,d3,d4,d5,d6⟩,_⟩:=HF.out.1.cells
  exact bodyPost_ret (v:=.agg #[Zi 5,Zi 0,Zi 0,Ze,.slice (some ⟨w4.heap.size,0,none⟩) 1 1,Zi 0,Zi 0]) (by simp[results,Tryz.results152,go_sem,d0,d1,d2,d3,d4,d5,d6]) rfl HF.out.2
theorem calledGet_any {rb rc wc:Nat} {en:Nat × Nat} {f:Nat} (w:World) (ts:List Tok) (nest:Nat) (v:Value) (hr:RdB w rb ts en nest v) (hn:nest≤200) (he:Env w rb rc wc) (hq:nxtT ts=wGet) (hq2:¬nxtT ts.tail=[91]) :
  Calls Tryz.prog 152 #[Zp rb,whV rc wc] w (PrP w rb en nest (pCa en f nest ts) (okE (New noB w.heap.size))):=by
 obtain⟨W1,hW1⟩:∃z,z=w.alloc (.cells #[Zi 0,Zi 0,Zi 0,Ze,Zn,Zi 0,Zi 0] 66):=⟨_,rfl⟩
 have hs1:FS w W1 rb rc wc ts en nest v:=by rw[hW1];exact (FS.start hr he).al _
 have hz1:z7 W1 w.heap.size:=by rw[hW1];exact Row7.al _ _ _ _ _ _ _ _
 obtain⟨G,hG⟩:∃z,z=pCa en f nest ts:=⟨_,rfl⟩
 rw[← hG]
 unfold pCa at hG
 rw[if_pos hq,if_neg hq2] at hG
 have HT:=takes_any W1 rb ts en nest v wGet (by decide) hs1.rd
 rw[decide_eq_true hq,if_pos hq] at HT
 have HT:Hid (Calls Tryz.prog 44 #[Zp rb,.string ⟨#[103,101,116]⟩] W1 fun e w'=>e=.returned (.bool true)∧T1 rb W1 w'∧∃v',RdB w' rb ts.tail en nest v'):=Zh HT
 have HC:=fun U v' (h:RdB U rb ts.tail en nest v')=>comes_any U rb ts.tail en nest v' [91] h
 simp only[decide_eq_false hq2] at HC
 have HC:Hid (∀U v',RdB U rb ts.tail en nest v'→Calls Tryz.prog 78 #[Zp rb,.string ⟨#[91]⟩] U fun e w'=>e=.returned (.bool false)∧Below U.heap.size U w'):=Zh HC
 have HB:Hid (∀U v',FS w U rb rc wc ts.tail en nest v'→Calls Tryz.prog 160 #[Zp rb,.string ⟨#[40]⟩,.string ⟨#[41]⟩,.func (.func 80) #[Zp rb] #[]] U (PrP U rb en nest (pBr en nest [40] [41] ts.tail fun _ r=>pName en r) (okN (New noB U.heap.size)))):=Zh fun U v' hU=>
  bracketedN_any U rb ts.tail en nest v' hU.rd [40] [41] (by decide) (by decide) hn 80 (enters_of Tryz.func80 (by kernel_rfl) rfl) #[Zp rb] #[] (fun _ r=>pName en r) okN noB (fun k hk=>hk.elim) okN_f okN_3
   (fun hq hn2 V v2 hV hrV=>name_any V rb ts.tail.tail en (nest+1) v2 hrV)
 generalize (pBr en nest [40] [41] ts.tail fun _ r=>pName en r)=R at *
 have HG:=Zh hG
 have HS:=Zh hs1
 have HZ:=Zh hz1
 clear hG hs1 hz1 hr he hq hq2
 go_enter Tryz.func152,Tryz.ntmps152
 go_upto_region 1 with fail
 rw[← hW1]
 clear hW1
 go_wp2_with fail
 refine HT.out.mono ?_
 clear HT
 rintro e w2 ⟨rfl,ht2,v2,hr2⟩
 have hs2:=HS.out.call ht2 hr2
 have HZ2:=Zh (HZ.out.t1 ht2 (by have:=hs2.lt;omega))
 have HC2:=Zh (HC.out w2 v2 hr2)
 have HS2:=Zh hs2
 clear HS HZ HC hs2 ht2 hr2
 go_wp2_with fail
 refine HC2.out.mono ?_
 clear HC2
 rintro e w3 ⟨rfl,hb3⟩
 have HS3:=Zh (HS2.out.bel hb3)
 have HZ3:=Zh (HZ2.out.kept hb3)
 have HB3:=Zh (HB.out w3 v2 HS3.out)
 clear HS2 HZ2 HB hb3
 go_wp2_with fail
 refine HB3.out.mono ?_
 clear HB3
 cases R with
 | er p x=>
  rintro e w4 ⟨rfl,ht⟩
  exact⟨rfl,er_fin HG.out (HS3.out.t1.trans ht)⟩
 | ok nm r2=>
  rintro e w4 ⟨xv,v4,rfl,hx,hr4,ht⟩
  have hx2:xv=.agg #[.string (S nm.1),Zi (nm.2.1:Int),Zi (nm.2.2:Int)]:=hx
  subst hx2
  have hs4:=HS3.out.call ht hr4
  have hlt:=hs4.lt
  have hz4:=HZ3.out.t1 ht (by omega)
  have HF:=Zh (res_fin HG.out okE_f hlt hs4.t1 hz4 (⟨_,rfl,.none⟩:okE (New noB (w.heap.size+1)) (.mk 3 0 0 nm.1 [] (0,0)) (.agg #[Zi 3,Zi 0,Zi 0,.string (S nm.1),Zn,Zi 0,Zi 0]) w4) (P':=New noB w.heap.size) (fun k hk=>hk.imp id (fun h=>by omega)) (fun k hk=>by
   rcases hk with hk | hk
   ·exact hk.elim
   ·omega) hs4.rd)
  obtain⟨_,f0,f1,f2,f3,f4,f5,f6⟩:=hz4.cells
  obtain⟨nt,nl,nc⟩:=nm
  simp only at HF
  generalize S nt=u at *
  have hfl:∀w:World,(Instr.field 89 (.agg #[.string u,Zi (nl:Int),Zi (nc:Int)]) 0).run Tryz.prog w=.ok (.string u) w:=fun _=>by kernel_rfl
  clear hx hr4 ht hs4 hlt hz4 HG HS3 HZ3
  go_wp2_with fail
  obtain⟨⟨d0,d1,d2,d3,d4,d5,d6⟩,_⟩:=HF.out.1.cells
  exact bodyPost_ret (v:=.agg #[Zi 3,Zi 0,Zi 0,.string u,Zn,Zi 0,Zi 0]) (by simp[results,Tryz.results152,go_sem,d0,d1,d2,d3,d4,d5,d6]) rfl HF.out.2
theorem calledHas_any {rb rc wc:Nat} {en:Nat × Nat} {f:Nat} (w:World) (ts:List Tok) (nest:Nat) (v:Value) (hr:RdB w rb ts en nest v) (hn:nest≤200) (he:Env w rb rc wc) (hq:¬nxtT ts=wGet) (hq2:nxtT ts=wHas) :
  Calls Tryz.prog 152 #[Zp rb,whV rc wc] w (PrP w rb en nest (pCa en f nest ts) (okE (New noB w.heap.size))):=by
 obtain⟨W1,hW1⟩:∃z,z=w.alloc (.cells #[Zi 0,Zi 0,Zi 0,Ze,Zn,Zi 0,Zi 0] 66):=⟨_,rfl⟩
 have hs1:FS w W1 rb rc wc ts en nest v:=by rw[hW1];exact (FS.start hr he).al _
 have hz1:z7 W1 w.heap.size:=by rw[hW1];exact Row7.al _ _ _ _ _ _ _ _
 obtain⟨G,hG⟩:∃z,z=pCa en f nest ts:=⟨_,rfl⟩
 rw[← hG]
 unfold pCa at hG
 rw[if_neg hq,if_pos hq2] at hG
 have HT:=takes_any W1 rb ts en nest v wGet (by decide) hs1.rd
 rw[decide_eq_false hq,if_neg hq] at HT
 have HT:Hid (Calls Tryz.prog 44 #[Zp rb,.string ⟨#[103,101,116]⟩] W1 fun e w'=>e=.returned (.bool false)∧T1 rb W1 w'∧∃v',RdB w' rb ts en nest v'):=Zh HT
 have HC:=fun U v' (h:RdB U rb ts en nest v')=>takes_any U rb ts en nest v' wHas (by decide) h
 simp only[decide_eq_true hq2,if_pos hq2] at HC
 have HC:Hid (∀U v',RdB U rb ts en nest v'→Calls Tryz.prog 44 #[Zp rb,.string ⟨#[104,97,115]⟩] U fun e w'=>e=.returned (.bool true)∧T1 rb U w'∧∃v2,RdB w' rb ts.tail en nest v2):=Zh HC
 have HB:Hid (∀U v',FS w U rb rc wc ts.tail en nest v'→Calls Tryz.prog 160 #[Zp rb,.string ⟨#[40]⟩,.string ⟨#[41]⟩,.func (.func 80) #[Zp rb] #[]] U (PrP U rb en nest (pBr en nest [40] [41] ts.tail fun _ r=>pName en r) (okN (New noB U.heap.size)))):=Zh fun U v' hU=>
  bracketedN_any U rb ts.tail en nest v' hU.rd [40] [41] (by decide) (by decide) hn 80 (enters_of Tryz.func80 (by kernel_rfl) rfl) #[Zp rb] #[] (fun _ r=>pName en r) okN noB (fun k hk=>hk.elim) okN_f okN_3
   (fun hq hn2 V v2 hV hrV=>name_any V rb ts.tail.tail en (nest+1) v2 hrV)
 generalize (pBr en nest [40] [41] ts.tail fun _ r=>pName en r)=R at *
 have HG:=Zh hG
 have HS:=Zh hs1
 have HZ:=Zh hz1
 clear hG hs1 hz1 hr he hq hq2
 go_enter Tryz.func152,Tryz.ntmps152
 go_upto_region 1 with fail
 rw[← hW1]
 clear hW1
 go_wp2_with fail
 refine HT.out.mono ?_
 clear HT
 rintro e w2 ⟨rfl,ht2,v2,hr2⟩
 have hs2:=HS.out.call ht2 hr2
 have HZ2:=Zh (HZ.out.t1 ht2 (by have:=hs2.lt;omega))
 have HC2:=Zh (HC.out w2 v2 hr2)
 have HS2:=Zh hs2
 clear HS HZ HC hs2 ht2 hr2
 go_wp2_with fail
 refine HC2.out.mono ?_
 clear HC2
 rintro e w3 ⟨rfl,ht3,v3,hr3⟩
 have hs3:=HS2.out.call ht3 hr3
 have HZ3:=Zh (HZ2.out.t1 ht3 (by have:=hs3.lt;omega))
 have HB3:=Zh (HB.out w3 v3 hs3)
 have HS3:=Zh hs3
 clear HS2 HZ2 HB hs3 ht3 hr3
 go_wp2_with fail
 refine HB3.out.mono ?_
 clear HB3
 cases R with
 | er p x=>
  rintro e w4 ⟨rfl,ht⟩
  exact⟨rfl,er_fin HG.out (HS3.out.t1.trans ht)⟩
 | ok nm r2=>
  rintro e w4 ⟨xv,v4,rfl,hx,hr4,ht⟩
  have hx2:xv=.agg #[.string (S nm.1),Zi (nm.2.1:Int),Zi (nm.2.2:Int)]:=hx
  subst hx2
  have hs4:=HS3.out.call ht hr4
  have hlt:=hs4.lt
  have hz4:=HZ3.out.t1 ht (by omega)
  have HF:=Zh (res_fin HG.out okE_f hlt hs4.t1 hz4 (⟨_,rfl,.none⟩:okE (New noB (w.heap.size+1)) (.mk 4 0 0 nm.1 [] (0,0)) (.agg #[Zi 4,Zi 0,Zi 0,.string (S nm.1),Zn,Zi 0,Zi 0]) w4) (P':=New noB w.heap.size) (fun k hk=>hk.imp id (fun h=>by omega)) (fun k hk=>by
   rcases hk with hk | hk
   ·exact hk.elim
   ·omega) hs4.rd)
  obtain⟨_,f0,f1,f2,f3,f4,f5,f6⟩:=hz4.cells
  obtain⟨nt,nl,nc⟩:=nm
  simp only at HF
  generalize S nt=u at *
  have hfl:∀w:World,(Instr.field 89 (.agg #[.string u,Zi (nl:Int),Zi (nc:Int)]) 0).run Tryz.prog w=.ok (.string u) w:=fun _=>by kernel_rfl
  clear hx hr4 ht hs4 hlt hz4 HG HS3 HZ3
  go_wp2_with fail
  obtain⟨⟨d0,d1,d2,d3,d4,d5,d6⟩,_⟩:=HF.out.1.cells
  exact bodyPost_ret (v:=.agg #[Zi 4,Zi 0,Zi 0,.string u,Zn,Zi 0,Zi 0]) (by simp[results,Tryz.results152,go_sem,d0,d1,d2,d3,d4,d5,d6]) rfl HF.out.2
theorem calledTwo_any {rb rc wc:Nat} {en:Nat × Nat} {f:Nat} (hT2:CTwo rb rc wc en f) (w:World) (ts:List Tok) (nest:Nat) (v:Value) (hr:RdB w rb ts en nest v) (hn:nest≤200) (he:Env w rb rc wc) (hq:¬nxtT ts=wGet) (hq2:¬nxtT ts=wHas) (hne:pCa en f nest ts≠.er (0,0) 0) :
  Calls Tryz.prog 152 #[Zp rb,whV rc wc] w (PrP w rb en nest (pCa en f nest ts) (okE (New noB w.heap.size))):=by
 obtain⟨W1,hW1⟩:=nm (w.alloc (.cells #[Zi 0,Zi 0,Zi 0,Ze,Zn,Zi 0,Zi 0] 66))
 have hs1:FS w W1 rb rc wc ts en nest v:=by rw[hW1];exact (FS.start hr he).al _
 have hz1:z7 W1 w.heap.size:=by rw[hW1];exact Row7.al _ _ _ _ _ _ _ _
 obtain⟨G,hG⟩:=nm (pCa en f nest ts)
 rw[← hG] at hne ⊢
 unfold pCa at hG
 rw[if_neg hq,if_neg hq2] at hG
 have HT:=takes_any W1 rb ts en nest v wGet (by decide) hs1.rd
 rw[decide_eq_false hq,if_neg hq] at HT
 have HT:Hid (Calls Tryz.prog 44 #[Zp rb,.string ⟨#[103,101,116]⟩] W1 fun e w'=>e=.returned (.bool false)∧T1 rb W1 w'∧∃v',RdB w' rb ts en nest v'):=Zh HT
 have HC:=fun U v' (h:RdB U rb ts en nest v')=>takes_any U rb ts en nest v' wHas (by decide) h
 simp only[decide_eq_false hq2,if_neg hq2] at HC
 have HC:Hid (∀U v',RdB U rb ts en nest v'→Calls Tryz.prog 44 #[Zp rb,.string ⟨#[104,97,115]⟩] U fun e w'=>e=.returned (.bool false)∧T1 rb U w'∧∃v2,RdB w' rb ts en nest v2):=Zh HC
 have HB:=Zh (fun U v' (hU:FS w U rb rc wc ts en nest v')=>hT2 U ts nest v' hU.rd hn hU.env (by rw[← hG];exact hne))
 rw[← hG] at HB
 have HS:=Zh hs1
 have HZ:=Zh hz1
 clear hG hs1 hz1 hne hr he hq hq2 hT2
 go_enter Tryz.func152,Tryz.ntmps152
 go_upto_region 1 with fail
 rw[← hW1]
 clear hW1
 go_wp2_with fail
 refine HT.out.mono ?_
 clear HT
 rintro e w2 ⟨rfl,ht2,v2,hr2⟩
 have hs2:=HS.out.call ht2 hr2
 have HZ2:=Zh (HZ.out.t1 ht2 (by have:=hs2.lt;omega))
 have HC2:=Zh (HC.out w2 v2 hr2)
 have HS2:=Zh hs2
 clear HS HZ HC hs2 ht2 hr2
 go_wp2_with fail
 refine HC2.out.mono ?_
 clear HC2
 rintro e w3 ⟨rfl,ht3,v3,hr3⟩
 have hs3:=HS2.out.call ht3 hr3
 have HZ3:=Zh (HZ2.out.t1 ht3 (by have:=hs3.lt;omega))
 have HB3:=Zh (HB.out w3 v3 hs3)
 have HS3:=Zh hs3
 clear HS2 HZ2 HB hs3 ht3 hr3
 go_wp2_with fail
 refine HB3.out.mono ?_
 clear HB3
 cases G with
 | er p x=>
  rintro e w4 ⟨rfl,ht⟩
  exact⟨rfl,er_fin rfl (HS3.out.t1.trans ht)⟩
 | ok y r2=>
  rintro e w4 ⟨xv,v4,rfl,hx,hr4,ht⟩
  obtain⟨k,o,n,l,c,s,ao,q,qc,rfl⟩:=okE_7 _ _ _ _ hx
  have hs4:=HS3.out.call ht hr4
  have hlt:=hs4.lt
  have hz4:=HZ3.out.t1 ht (by omega)
  have h9:=blk_lt HZ3.out
  have HF:=Zh (res_fin rfl okE_f hlt hs4.t1 hz4 hx (P':=New noB w.heap.size) (fun k hk=>hk.imp id (fun h=>by omega)) (fun k hk=>by
   rcases hk with hk | hk
   ·exact hk.elim
   ·omega) hs4.rd)
  obtain⟨_,f0,f1,f2,f3,f4,f5,f6⟩:=hz4.cells
  clear hx hr4 ht hs4 hlt hz4 HS3 HZ3 h9
  go_wp2_with fail
  obtain⟨⟨d0,d1,d2,d3,d4,d5,d6⟩,_⟩:=HF.out.1.cells
  exact bodyPost_ret (v:=.agg #[Zi k,Zi o,Zi n,.string s,.slice ao q qc,Zi l,Zi c]) (by simp[results,Tryz.results152,go_sem,d0,d1,d2,d3,d4,d5,d6]) rfl HF.out.2
theorem called_any {rb rc wc:Nat} {en:Nat × Nat} {f:Nat} (hW:CW rb rc wc en f):CCa rb rc wc en f:=by
 intro U ts nest v hr hn he hne
 by_cases hq:nxtT ts=wGet
 ·by_cases hq2:nxtT ts.tail=[91]
  ·exact calledX_any hW U ts nest v hr hn he hq hq2 hne
  ·exact calledGet_any U ts nest v hr hn he hq hq2
 ·by_cases hq2:nxtT ts=wHas
  ·exact calledHas_any U ts nest v hr hn he hq hq2
  ·exact calledTwo_any (ofTwo_any hW) U ts nest v hr hn he hq hq2 hne
theorem setAt_ok {P:Nat→Prop} {W:World} {x:Ex} {a0 a1 a2 a3 a4 a5 a6:Value} (p:Nat × Nat) (h:okE P x (.agg #[a0,a1,a2,a3,a4,a5,a6]) W):okE P (setAt p x) (.agg #[a0,a1,a2,a3,a4,Zi (p.1:Int),Zi (p.2:Int)]) W:=by
 obtain⟨k,op,n,nm,args,q⟩:=x
 obtain⟨A,hv,ha⟩:=h
 simp only[Value.agg.injEq,Array.mk.injEq,List.cons.injEq,and_true] at hv
 obtain⟨rfl,rfl,rfl,rfl,rfl,rfl,rfl⟩:=hv
 exact⟨_,rfl,ha⟩
theorem primaryNum_any {rb rc wc:Nat} {en:Nat × Nat} (w:World) (ts:List Tok) (nest:Nat) (v:Value) (hr:RdB w rb ts en nest v) (he:Env w rb rc wc) (hq:nxtK ts=3) :
  Calls Tryz.prog 144 #[Zp rb,whV rc wc] w (PrP w rb en nest (.ok (.mk 1 0 (nxtN ts) [] [] (nxtP en ts)) ts.tail) (okE (New noB w.heap.size))):=by
 obtain⟨W1,hW1⟩:=nm (w.alloc (.cells #[Zi 0,Zi 0,Zi 0,Ze,Zn,Zi 0,Zi 0] 66))
 have hs1:FS w W1 rb rc wc ts en nest v:=by rw[hW1];exact (FS.start hr he).al _
 have hz1:z7 W1 w.heap.size:=by rw[hW1];exact Row7.al _ _ _ _ _ _ _ _
 have HN:=next_any W1 rb ts en nest v hs1.rd
 obtain⟨t,r,rfl⟩:∃t r,ts=t :: r:=by
  cases ts with
  | nil=>cases hq
  | cons t r=>exact⟨t,r,rfl⟩
 obtain⟨kd,tx,nv,pl,pc⟩:=t
 have hk:kd=3:=hq
 subst hk
 have HT:Hid (∀U,FS w U rb rc wc ((3,tx,nv,pl,pc) :: r) en nest v→Calls Tryz.prog 79 #[Zp rb] U fun e w'=>e=.returned (tkV 3 tx nv (pl,pc))∧T1 rb U w'∧∃v',RdB w' rb r en nest v'):=Zh fun U hU=>take_any U rb (3,tx,nv,pl,pc) r en nest v hU.rd
 have HN:Hid (Calls Tryz.prog 106 #[Zp rb] W1 fun e w'=>e=.returned (.agg #[Zi 3,.string (S tx),Zi nv,Zi (pl:Int),Zi (pc:Int)])∧Below W1.heap.size W1 w'):=Zh HN
 have HS:=Zh hs1
 have HZ:=Zh hz1
 have HWs:Hid (w.heap.size < W1.heap.size):=blk_lt hz1
 obtain⟨G,hG⟩:=nm ((PR.ok (.mk 1 0 nv [] [] (pl,pc)) r:PR Ex))
 have hG1:(PR.ok (.mk 1 0 (nxtN ((3,tx,nv,pl,pc) :: r)) [] [] (nxtP en ((3,tx,nv,pl,pc) :: r))) ((3,tx,nv,pl,pc) :: r).tail:PR Ex)=G:=hG.symm
 rw[hG1]
 have HG:=Zh hG
 clear hs1 hz1 hr he hq hG hG1
 generalize S tx=u at *
 go_enter Tryz.func144,Tryz.ntmps144
 go_upto_region 1 with fail
 rw[← hW1]
 clear hW1
 go_wp2_with fail
 refine HN.out.mono ?_
 clear HN
 rintro e w2 ⟨rfl,hb2⟩
 obtain⟨w3,hw3⟩:=nm (w2.alloc (.cells #[Zi 3,.string u,Zi nv,Zi (pl:Int),Zi (pc:Int)] 83))
 obtain⟨B,hB⟩:=nm (w2.heap.size)
 have hb3:Below w2.heap.size w2 w3:=by rw[hw3];exact bel_al _ _
 have hb13:=hb2.trans (hb3.mono hb2.size)
 have ht3:Row5 w3 B (Zi 3) (.string u) (Zi nv) (Zi (pl:Int)) (Zi (pc:Int)):=by rw[hw3,hB];exact Row5.al _ _ _ _ _ _
 have HS3:=Zh (HS.out.bel hb13)
 have HZ3:=Zh (HZ.out.kept hb13)
 have HT3:=Zh (HT.out w3 HS3.out)
 have HR3:=Zh ht3
 have HBw:Hid (w.heap.size≤B):=Zh (by rw[hB];have:=HWs.out;have:=hb2.size;omega)
 obtain⟨⟨t0,_⟩,_⟩:=ht3.cells
 clear hb2 hb3 hb13 ht3 HS HZ HT HWs
 go_upto_region 2 with fail
 rw[← hw3,← hB]
 clear hw3 hB
 go_wp2_with fail
 refine HT3.out.mono ?_
 clear HT3
 rintro e w4 ⟨rfl,ht4,v4,hr4⟩
 have hs4:=HS3.out.call ht4 hr4
 have hlt:=hs4.lt
 have hz4:=HZ3.out.t1 ht4 (by omega)
 have hx4:=ht4.row5 HR3.out (by have:=HBw.out;omega)
 have HF:=Zh (res_fin HG.out okE_f hlt hs4.t1 hz4 (⟨_,rfl,.none⟩:okE (New noB (w.heap.size+1)) (.mk 1 0 nv [] [] (pl,pc)) (.agg #[Zi 1,Zi 0,Zi nv,Ze,Zn,Zi (pl:Int),Zi (pc:Int)]) w4) (P':=New noB w.heap.size) (fun k hk=>hk.imp id (fun h=>by omega)) (fun k hk=>by
   rcases hk with hk | hk
   ·exact hk.elim
   ·omega) hs4.rd)
 obtain⟨_,f0,f1,f2,f3,f4,f5,f6⟩:=hz4.cells
 obtain⟨⟨x0,x1,x2,x3,x4⟩,_⟩:=hx4.cells
 clear hr4 ht4 hs4 hlt hz4 hx4 HG HS3 HZ3 HR3 HBw
 go_wp2_with fail
 obtain⟨⟨d0,d1,d2,d3,d4,d5,d6⟩,_⟩:=HF.out.1.cells
 exact bodyPost_ret (v:=.agg #[Zi 1,Zi 0,Zi nv,Ze,Zn,Zi (pl:Int),Zi (pc:Int)]) (by simp[results,Tryz.results144,go_sem,d0,d1,d2,d3,d4,d5,d6]) rfl HF.out.2
theorem primaryName_any {rb rc wc:Nat} {en:Nat × Nat} (w:World) (ts:List Tok) (nest:Nat) (v:Value) (hr:RdB w rb ts en nest v) (he:Env w rb rc wc) (hq:nxtK ts=1) :
  Calls Tryz.prog 144 #[Zp rb,whV rc wc] w (PrP w rb en nest (.ok (.mk 2 0 0 (nxtT ts) [] (nxtP en ts)) ts.tail) (okE (New noB w.heap.size))):=by
 obtain⟨W1,hW1⟩:=nm (w.alloc (.cells #[Zi 0,Zi 0,Zi 0,Ze,Zn,Zi 0,Zi 0] 66))
 have hs1:FS w W1 rb rc wc ts en nest v:=by rw[hW1];exact (FS.start hr he).al _
 have hz1:z7 W1 w.heap.size:=by rw[hW1];exact Row7.al _ _ _ _ _ _ _ _
 have HN:=next_any W1 rb ts en nest v hs1.rd
 obtain⟨t,r,rfl⟩:∃t r,ts=t :: r:=by
  cases ts with
  | nil=>cases hq
  | cons t r=>exact⟨t,r,rfl⟩
 obtain⟨kd,tx,nv,pl,pc⟩:=t
 have hk:kd=1:=hq
 subst hk
 have HT:Hid (∀U,FS w U rb rc wc ((1,tx,nv,pl,pc) :: r) en nest v→Calls Tryz.prog 79 #[Zp rb] U fun e w'=>e=.returned (tkV 1 tx nv (pl,pc))∧T1 rb U w'∧∃v',RdB w' rb r en nest v'):=Zh fun U hU=>take_any U rb (1,tx,nv,pl,pc) r en nest v hU.rd
 have HN:Hid (Calls Tryz.prog 106 #[Zp rb] W1 fun e w'=>e=.returned (.agg #[Zi 1,.string (S tx),Zi nv,Zi (pl:Int),Zi (pc:Int)])∧Below W1.heap.size W1 w'):=Zh HN
 have HS:=Zh hs1
 have HZ:=Zh hz1
 have HWs:Hid (w.heap.size < W1.heap.size):=blk_lt hz1
 obtain⟨G,hG⟩:=nm ((PR.ok (.mk 2 0 0 tx [] (pl,pc)) r:PR Ex))
 have hG1:(PR.ok (.mk 2 0 0 (nxtT ((1,tx,nv,pl,pc) :: r)) [] (nxtP en ((1,tx,nv,pl,pc) :: r))) ((1,tx,nv,pl,pc) :: r).tail:PR Ex)=G:=hG.symm
 rw[hG1]
 have HG:=Zh hG
 clear hs1 hz1 hr he hq hG hG1
 obtain⟨u,hu⟩:=nm (S tx)
 rw[← hu] at HN
 have HU:=Zh hu
 clear hu
 go_enter Tryz.func144,Tryz.ntmps144
 go_upto_region 1 with fail
 rw[← hW1]
 clear hW1
 go_wp2_with fail
 refine HN.out.mono ?_
 clear HN
 rintro e w2 ⟨rfl,hb2⟩
 obtain⟨w3,hw3⟩:=nm (w2.alloc (.cells #[Zi 1,.string u,Zi nv,Zi (pl:Int),Zi (pc:Int)] 83))
 obtain⟨B,hB⟩:=nm (w2.heap.size)
 have hb3:Below w2.heap.size w2 w3:=by rw[hw3];exact bel_al _ _
 have hb13:=hb2.trans (hb3.mono hb2.size)
 have ht3:Row5 w3 B (Zi 1) (.string u) (Zi nv) (Zi (pl:Int)) (Zi (pc:Int)):=by rw[hw3,hB];exact Row5.al _ _ _ _ _ _
 have HS3:=Zh (HS.out.bel hb13)
 have HZ3:=Zh (HZ.out.kept hb13)
 have HT3:=Zh (HT.out w3 HS3.out)
 have HR3:=Zh ht3
 have HBw:Hid (w.heap.size≤B):=Zh (by rw[hB];have:=HWs.out;have:=hb2.size;omega)
 obtain⟨⟨t0,_⟩,_⟩:=ht3.cells
 clear hb2 hb3 hb13 ht3 HS HZ HT HWs
 go_upto_region 2 with fail
 rw[← hw3,← hB]
 clear hw3 hB
 go_wp2_with fail
 refine HT3.out.mono ?_
 clear HT3
 rintro e w4 ⟨rfl,ht4,v4,hr4⟩
 have hs4:=HS3.out.call ht4 hr4
 have hlt:=hs4.lt
 have hz4:=HZ3.out.t1 ht4 (by omega)
 have hx4:=ht4.row5 HR3.out (by have:=HBw.out;omega)
 have HF:=Zh (res_fin HG.out okE_f hlt hs4.t1 hz4 (⟨_,by rw[HU.out];rfl,.none⟩:okE (New noB (w.heap.size+1)) (.mk 2 0 0 tx [] (pl,pc)) (.agg #[Zi 2,Zi 0,Zi 0,.string u,Zn,Zi (pl:Int),Zi (pc:Int)]) w4) (P':=New noB w.heap.size) (fun k hk=>hk.imp id (fun h=>by omega)) (fun k hk=>by
   rcases hk with hk | hk
   ·exact hk.elim
   ·omega) hs4.rd)
 obtain⟨_,f0,f1,f2,f3,f4,f5,f6⟩:=hz4.cells
 obtain⟨⟨x0,x1,x2,x3,x4⟩,_⟩:=hx4.cells
 clear hr4 ht4 hs4 hlt hz4 hx4 HG HS3 HZ3 HR3 HBw
 go_wp2_with fail
 obtain⟨⟨d0,d1,d2,d3,d4,d5,d6⟩,_⟩:=HF.out.1.cells
 exact bodyPost_ret (v:=.agg #[Zi 2,Zi 0,Zi 0,.string u,Zn,Zi (pl:Int),Zi (pc:Int)]) (by simp[results,Tryz.results144,go_sem,d0,d1,d2,d3,d4,d5,d6]) rfl HF.out.2
theorem primaryPar_any {rb rc wc:Nat} {en:Nat × Nat} {f:Nat} (hW:CW rb rc wc en f) (w:World) (ts:List Tok) (nest:Nat) (v:Value) (hr:RdB w rb ts en nest v) (hn:nest≤200) (he:Env w rb rc wc) (hK3:¬nxtK ts=3) (hK1:¬nxtK ts=1) (hq:nxtT ts=[40]) (hne:(pBr en nest [40] [41] ts fun ns r=>pWh en f ns r)≠.er (0,0) 0) :
  Calls Tryz.prog 144 #[Zp rb,whV rc wc] w (PrP w rb en nest (pBr en nest [40] [41] ts fun ns r=>pWh en f ns r) (okE (New noB w.heap.size))):=by
 obtain⟨W1,hW1⟩:=nm (w.alloc (.cells #[Zi 0,Zi 0,Zi 0,Ze,Zn,Zi 0,Zi 0] 66))
 have hs1:FS w W1 rb rc wc ts en nest v:=by rw[hW1];exact (FS.start hr he).al _
 have hz1:z7 W1 w.heap.size:=by rw[hW1];exact Row7.al _ _ _ _ _ _ _ _
 have HN:=next_any W1 rb ts en nest v hs1.rd
 have HN:=HN
 have HC:=fun U (hU:Below W1.heap.size W1 U)=>comes_any U rb ts en nest v [40] (hs1.bel hU).rd
 simp only[decide_eq_true hq] at HC
 have HC:Hid (∀U,Below W1.heap.size W1 U→Calls Tryz.prog 78 #[Zp rb,.string ⟨#[40]⟩] U fun e w'=>e=.returned (.bool true)∧Below U.heap.size U w'):=Zh HC
 obtain⟨G,hG⟩:=nm (pBr en nest [40] [41] ts fun ns r=>pWh en f ns r)
 rw[← hG] at hne ⊢
 have HBt:=Zh (fun U (hU:FS w U rb rc wc ts en nest v)=>
  bracketedE_any U rb ts en nest v hU.rd [40] [41] (by decide) (by decide) hn 107 (enters_of Tryz.func107 (by kernel_rfl) rfl) #[] #[Zp rc,Zp wc] (fun ns r=>pWh en f ns r) okE noB (fun k hk=>hk.elim) okE_f okE_7
   (fun hq hn2 V v2 hV hrV=>(hW V ts.tail (nest+1) v2 hrV (by omega) (hU.env.t1 hV) (fun h=>hne (by
    rw[hG]
    unfold pBr pOpen
    rw[if_pos hq,if_neg hn2]
    simp only
    rw[h]
    rfl)))))
 rw[← hG] at HBt
 have HBt:Hid (∀U,FS w U rb rc wc ts en nest v→Calls Tryz.prog 151 #[Zp rb,.string ⟨#[40]⟩,.string ⟨#[41]⟩,whV rc wc] U (PrP U rb en nest G (okE (New noB U.heap.size)))):=HBt
 obtain⟨p,hp⟩:=nm (nxtP en ts)
 have hk3:((nxtK ts:Int) == 3)=false:=by simp;omega
 have hk1:((nxtK ts:Int) == 1)=false:=by simp;omega
 rw[← hp] at HN
 obtain⟨pl,pc⟩:=p
 generalize nxtN ts=nv at *
 generalize nxtK ts=kd at *
 have hux:∃u,u=S (nxtT ts):=⟨_,rfl⟩
 obtain⟨u,hu⟩:=hux
 have HN:Hid (Calls Tryz.prog 106 #[Zp rb] W1 fun e w'=>e=.returned (.agg #[Zi (kd:Int),.string u,Zi nv,Zi (pl:Int),Zi (pc:Int)])∧Below W1.heap.size W1 w'):=Zh (by rw[hu];exact HN)
 have HS:=Zh hs1
 have HZ:=Zh hz1
 have HG:=Zh hG
 have HWs:Hid (w.heap.size < W1.heap.size):=blk_lt hz1
 clear hs1 hz1 hr he hq hG hne hp hu hK3 hK1 hW
 go_enter Tryz.func144,Tryz.ntmps144
 go_upto_region 1 with fail
 rw[← hW1]
 clear hW1
 go_wp2_with fail
 refine HN.out.mono ?_
 clear HN
 rintro e w2 ⟨rfl,hb2⟩
 obtain⟨w3,hw3⟩:=nm (w2.alloc (.cells #[Zi (kd:Int),.string u,Zi nv,Zi (pl:Int),Zi (pc:Int)] 83))
 obtain⟨B,hB⟩:=nm (w2.heap.size)
 have hb3:Below w2.heap.size w2 w3:=by rw[hw3];exact bel_al _ _
 have hb13:=hb2.trans (hb3.mono hb2.size)
 have ht3:Row5 w3 B (Zi (kd:Int)) (.string u) (Zi nv) (Zi (pl:Int)) (Zi (pc:Int)):=by rw[hw3,hB];exact Row5.al _ _ _ _ _ _
 have HS3:=Zh (HS.out.bel hb13)
 have HZ3:=Zh (HZ.out.kept hb13)
 have HC3:=Zh (HC.out w3 hb13)
 have HR3:=Zh ht3
 have HBw:Hid (w.heap.size≤B):=Zh (by rw[hB];have:=HWs.out;have:=hb2.size;omega)
 obtain⟨⟨t0,_⟩,_⟩:=ht3.cells
 clear hb2 hb3 hb13 ht3 HS HZ HC HWs
 go_upto_region 2 with fail
 rw[← hw3,← hB]
 clear hw3 hB
 go_wp2_with fail
 refine HC3.out.mono ?_
 clear HC3 t0
 rintro e w4 ⟨rfl,hb4⟩
 have HS4:=Zh (HS3.out.bel hb4)
 have HZ4:=Zh (HZ3.out.kept hb4)
 have HR4:=Zh (Row5.kept HR3.out hb4)
 have HB4:=Zh (HBt.out w4 HS4.out)
 clear HS3 HZ3 HR3 HBt hb4
 go_wp2_with fail
 refine HB4.out.mono ?_
 clear HB4
 cases G with
 | er p x=>
  rintro e w5 ⟨rfl,ht⟩
  exact⟨rfl,er_fin rfl (HS4.out.t1.trans ht)⟩
 | ok y r2=>
  rintro e w5 ⟨xv,v5,rfl,hx,hr5,ht⟩
  obtain⟨k,o,n,l,c,s,ao,q,qc,rfl⟩:=okE_7 _ _ _ _ hx
  have hs5:=HS4.out.call ht hr5
  have hlt:=hs5.lt
  have hz5:=HZ4.out.t1 ht (by omega)
  have h9:=blk_lt HZ4.out
  have HF:=Zh (res_fin rfl okE_f hlt hs5.t1 hz5 hx (P':=New noB w.heap.size) (fun k hk=>hk.imp id (fun h=>by omega)) (fun k hk=>by
   rcases hk with hk | hk
   ·exact hk.elim
   ·omega) hs5.rd)
  obtain⟨_,f0,f1,f2,f3,f4,f5,f6⟩:=hz5.cells
  clear hx hr5 ht hs5 hlt hz5 HS4 HZ4 HR4 h9 HG HBw hk3 hk1
  go_wp2_with fail
  obtain⟨⟨d0,d1,d2,d3,d4,d5,d6⟩,_⟩:=HF.out.1.cells
  exact bodyPost_ret (v:=.agg #[Zi k,Zi o,Zi n,.string s,.slice ao q qc,Zi l,Zi c]) (by simp[results,Tryz.results144,go_sem,d0,d1,d2,d3,d4,d5,d6]) rfl HF.out.2
theorem primaryCal_any {rb rc wc:Nat} {en:Nat × Nat} {f:Nat} (hCa:CCa rb rc wc en f) (w:World) (ts:List Tok) (nest:Nat) (v:Value) (hr:RdB w rb ts en nest v) (hn:nest≤200) (he:Env w rb rc wc) (hK3:¬nxtK ts=3) (hK1:¬nxtK ts=1) (hq:¬nxtT ts=[40]) (hne:((pCa en f nest ts).bind fun x r=>.ok (setAt (nxtP en ts) x) r)≠.er (0,0) 0) :
  Calls Tryz.prog 144 #[Zp rb,whV rc wc] w (PrP w rb en nest ((pCa en f nest ts).bind fun x r=>.ok (setAt (nxtP en ts) x) r) (okE (New noB w.heap.size))):=by
 obtain⟨W1,hW1⟩:=nm (w.alloc (.cells #[Zi 0,Zi 0,Zi 0,Ze,Zn,Zi 0,Zi 0] 66))
 have hs1:FS w W1 rb rc wc ts en nest v:=by rw[hW1];exact (FS.start hr he).al _
 have hz1:z7 W1 w.heap.size:=by rw[hW1];exact Row7.al _ _ _ _ _ _ _ _
 have HN:=next_any W1 rb ts en nest v hs1.rd
 have HN:=HN
 have HC:=fun U (hU:Below W1.heap.size W1 U)=>comes_any U rb ts en nest v [40] (hs1.bel hU).rd
 simp only[decide_eq_false hq] at HC
 have HC:Hid (∀U,Below W1.heap.size W1 U→Calls Tryz.prog 78 #[Zp rb,.string ⟨#[40]⟩] U fun e w'=>e=.returned (.bool false)∧Below U.heap.size U w'):=Zh HC
 obtain⟨G,hG⟩:=nm ((pCa en f nest ts).bind fun x r=>.ok (setAt (nxtP en ts) x) r)
 rw[← hG] at hne ⊢
 have HBt:=Zh (fun U (hU:FS w U rb rc wc ts en nest v)=>hCa U ts nest v hU.rd hn hU.env (fun h=>hne (by rw[hG,h];rfl)))
 have HE:=Zh he
 generalize pCa en f nest ts=R at *
 obtain⟨p,hp⟩:=nm (nxtP en ts)
 have hk3:((nxtK ts:Int) == 3)=false:=by simp;omega
 have hk1:((nxtK ts:Int) == 1)=false:=by simp;omega
 rw[← hp] at HN hG
 obtain⟨pl,pc⟩:=p
 generalize nxtN ts=nv at *
 generalize nxtK ts=kd at *
 have hux:∃u,u=S (nxtT ts):=⟨_,rfl⟩
 obtain⟨u,hu⟩:=hux
 have HN:Hid (Calls Tryz.prog 106 #[Zp rb] W1 fun e w'=>e=.returned (.agg #[Zi (kd:Int),.string u,Zi nv,Zi (pl:Int),Zi (pc:Int)])∧Below W1.heap.size W1 w'):=Zh (by rw[hu];exact HN)
 have HS:=Zh hs1
 have HZ:=Zh hz1
 have HG:=Zh hG
 have HWs:Hid (w.heap.size < W1.heap.size):=blk_lt hz1
 clear hs1 hz1 hr he hq hG hne hp hu hK3 hK1 hCa
 go_enter Tryz.func144,Tryz.ntmps144
 go_upto_region 1 with fail
 rw[← hW1]
 clear hW1
 go_wp2_with fail
 refine HN.out.mono ?_
 clear HN
 rintro e w2 ⟨rfl,hb2⟩
 obtain⟨w3,hw3⟩:=nm (w2.alloc (.cells #[Zi (kd:Int),.string u,Zi nv,Zi (pl:Int),Zi (pc:Int)] 83))
 obtain⟨B,hB⟩:=nm (w2.heap.size)
 have hb3:Below w2.heap.size w2 w3:=by rw[hw3];exact bel_al _ _
 have hb13:=hb2.trans (hb3.mono hb2.size)
 have ht3:Row5 w3 B (Zi (kd:Int)) (.string u) (Zi nv) (Zi (pl:Int)) (Zi (pc:Int)):=by rw[hw3,hB];exact Row5.al _ _ _ _ _ _
 have HS3:=Zh (HS.out.bel hb13)
 have HZ3:=Zh (HZ.out.kept hb13)
 have HC3:=Zh (HC.out w3 hb13)
 have HR3:=Zh ht3
 have HBw:Hid (w.heap.size≤B):=Zh (by rw[hB];have:=HWs.out;have:=hb2.size;omega)
 obtain⟨⟨t0,_⟩,_⟩:=ht3.cells
 clear hb2 hb3 hb13 ht3 HS HZ HC HWs
 go_upto_region 2 with fail
 rw[← hw3,← hB]
 clear hw3 hB
 go_wp2_with fail
 refine HC3.out.mono ?_
 clear HC3 t0
 rintro e w4 ⟨rfl,hb4⟩
 have HS4:=Zh (HS3.out.bel hb4)
 have HZ4:=Zh (HZ3.out.kept hb4)
 have HR4:=Zh (Row5.kept HR3.out hb4)
 have HB4:=Zh (HBt.out w4 HS4.out)
 clear HS3 HZ3 HR3 HBt hb4
 go_wp2_with fail
 refine HB4.out.mono ?_
 clear HB4
 cases R with
 | er p x=>
  rintro e w5 ⟨rfl,ht⟩
  exact⟨rfl,er_fin HG.out (HS4.out.t1.trans ht)⟩
 | ok y r2=>
  rintro e w5 ⟨xv,v5,rfl,hx,hr5,ht⟩
  obtain⟨k,o,n,l,c,s,ao,q,qc,rfl⟩:=okE_7 _ _ _ _ hx
  have hx2:=setAt_ok (pl,pc) hx
  have hs5:=HS4.out.call ht hr5
  have hlt:=hs5.lt
  have hz5:=HZ4.out.t1 ht (by omega)
  have hr5:=ht.row5 HR4.out (by have:=HBw.out;omega)
  have h9:=blk_lt HZ4.out
  obtain⟨w6,hw6⟩:=nm (w5.alloc (.cells #[Zi k,Zi o,Zi n,.string s,.slice ao q qc,Zi l,Zi c] 66))
  obtain⟨B6,hB6⟩:=nm (w5.heap.size)
  have hb6:Below w5.heap.size w5 w6:=by rw[hw6];exact bel_al _ _
  have hx6:Row7 w6 B6 (Zi k) (Zi o) (Zi n) (.string s) (.slice ao q qc) (Zi l) (Zi c):=by rw[hw6,hB6];exact Row7.al _ _ _ _ _ _ _ _
  have hs6:=hs5.bel hb6
  have hz6:=hz5.kept hb6
  have hr6:=hr5.kept hb6
  have hB6w:w.heap.size < B6:=by have:=ht.size;omega
  obtain⟨w7,hw7⟩:=nm ((w6.setCell ⟨B6,5,none⟩ (Zi (pl:Int))).setCell ⟨B6,6,none⟩ (Zi (pc:Int)))
  have h67:∀k,k≠B6→w7.heap[k]? = w6.heap[k]?:=fun k hk=>by rw[hw7,heap_setCell_other _ _ _ _ hk,heap_setCell_other _ _ _ _ hk]
  have hb7:Below w.heap.size w6 w7:=by
   rw[hw7]
   exact ((Below.refl _ _).setCell (p:=⟨B6,5,none⟩) (Nat.le_of_lt hB6w) _).setCell (p:=⟨B6,6,none⟩) (Nat.le_of_lt hB6w) _
  have hx7:Row7 w7 B6 (Zi k) (Zi o) (Zi n) (.string s) (.slice ao q qc) (Zi (pl:Int)) (Zi (pc:Int)):=by
   rw[hw7]
   exact heap_setCell_same _ B6 6 _ _ _ (heap_setCell_same _ B6 5 _ _ _ hx6)
  have hz7:z7 w7 w.heap.size:=(h67 _ (by omega)).trans hz6
  have hs7:=hs6.low HE.out hb7
  have ho7:okE (fun k=>w.heap.size < k∧k < B6) (setAt (pl,pc) y) (.agg #[Zi k,Zi o,Zi n,.string s,.slice ao q qc,Zi (pl:Int),Zi (pc:Int)]) w7:=okE_f _ _ _ _ _ _ (okE_lt hx2) (fun k hk=>by
   obtain⟨h1,h2⟩:=hk
   rcases h1 with h1 | h1
   ·exact h1.elim
   ·exact⟨by omega,by omega⟩) (fun k hk hl=>(h67 k (by omega)).trans (hb6.block k hl))
  have HF:=Zh (res_fin HG.out okE_f hlt hs7.t1 hz7 ho7 (P':=New noB w.heap.size) (fun k hk=>.inr (by omega)) (fun k hk=>by omega) hs7.rd)
  obtain⟨⟨y0,y1,y2,y3,y4⟩,_⟩:=hr6.cells
  obtain⟨⟨x0,x1,x2,x3,x4,x5,x6⟩,g0,g1,g2,g3,g4,g5,g6⟩:=hx6.cells
  obtain⟨⟨z0,z1,z2,z3,z4,z5,z6⟩,_⟩:=hx7.cells
  obtain⟨_,f0,f1,f2,f3,f4,f5,f6⟩:=hz7.cells
  have hb66:Row7 (w6.setCell ⟨B6,5,none⟩ (Zi (pl:Int))) B6 (Zi k) (Zi o) (Zi n) (.string s) (.slice ao q qc) (Zi (pl:Int)) (Zi c):=heap_setCell_same _ B6 5 _ _ _ hx6
  obtain⟨⟨_,_,_,_,_,_,q6⟩,_,_,_,_,_,_,qf⟩:=hb66.cells
  clear hx hx2 hr5 ht hs5 hlt hz5 h9 hb6 hx6 hs6 hz6 hr6 hB6w h67 hb7 hx7 hz7 hs7 ho7 hb66 HS4 HZ4 HR4 HG HBw hk3 hk1 HE
  go_upto_region 11 with fail
  rw[← hw6,← hB6]
  clear hw6 hB6
  go_upto_region 12 with fail
  rw[← hw7]
  clear hw7 x0 x1 x2 x3 x4 x5 x6 g0 g1 g2 g3 g4 g5 g6 q6 qf y0 y1 y2 y3 y4
  go_wp2_with fail
  obtain⟨⟨d0,d1,d2,d3,d4,d5,d6⟩,_⟩:=HF.out.1.cells
  exact bodyPost_ret (v:=.agg #[Zi k,Zi o,Zi n,.string s,.slice ao q qc,Zi (pl:Int),Zi (pc:Int)]) (by simp[results,Tryz.results144,go_sem,d0,d1,d2,d3,d4,d5,d6]) rfl HF.out.2
theorem primary_any {rb rc wc:Nat} {en:Nat × Nat} {f:Nat} (hW:CW rb rc wc en f):CP rb rc wc en (f+1):=by
 intro U ts nest v hr hn he hne
 rw[pPr_eq] at hne ⊢
 by_cases h3:nxtK ts=3
 ·rw[if_pos h3]
  exact primaryNum_any U ts nest v hr he h3
 ·rw[if_neg h3] at hne ⊢
  by_cases h1:nxtK ts=1
  ·rw[if_pos h1]
   exact primaryName_any U ts nest v hr he h1
  ·rw[if_neg h1] at hne ⊢
   by_cases hp:nxtT ts=[40]
   ·rw[if_pos hp] at hne ⊢
    exact primaryPar_any hW U ts nest v hr hn he h3 h1 hp hne
   ·rw[if_neg hp] at hne ⊢
    exact primaryCal_any (called_any hW) U ts nest v hr hn he h3 h1 hp hne
end Go.Proofs.YtlfooogmoigpfaaGreatDoor
