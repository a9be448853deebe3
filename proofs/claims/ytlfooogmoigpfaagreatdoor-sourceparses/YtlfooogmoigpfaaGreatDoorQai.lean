import Derived.Test.YtlfooogmoigpfaaGreatDoorQaf
import Derived.Laws.EntriesVeiled
import Derived.Test.YtlfooogmoigpfaaGreatDoorQah
import Derived.Deep.DeepAppendRoom
import Derived.Test.YtlfooogmoigpfaaGreatDoorQac
import Derived.Laws.OwnMore
import Derived.Deep.MidRow
import Derived.Test.YtlfooogmoigpfaaGreatDoorQaa
set_option maxRecDepth 100000
set_option maxHeartbeats 8000000
namespace Go.Proofs.YtlfooogmoigpfaaGreatDoor
open Go.RowKit Go.Sort Go.Shelf
theorem whole_any {rb rc wc:Nat} {en:Nat × Nat} {f:Nat} (hJ:CJ rb rc wc en f) (hC:CC rb rc wc en f):CW rb rc wc en (f+1):=by
 intro w ts nest v hr hn he hne
 obtain⟨W1,hW1⟩:=nm (w.alloc (.cells #[Zi 0,Zi 0,Zi 0,Ze,Zn,Zi 0,Zi 0] 66))
 have hs1:FS w W1 rb rc wc ts en nest v:=by rw[hW1];exact (FS.start hr he).al _
 have hz1:z7 W1 w.heap.size:=by rw[hW1];exact Row7.al _ _ _ _ _ _ _ _
 have hpj:pJo en f 1 nest ts≠.er (0,0) 0:=fun h=>hne (by rw[pWh_eq,h];rfl)
 have HJ:=Zh (hJ W1 1 ts nest v hs1.rd hn hs1.env (by omega) (by omega) hpj)
 rw[pWh_eq] at hne ⊢
 obtain⟨G,hG⟩:=nm ((pJo en f 1 nest ts).bind fun x r=>if nxtT r=[63] then pCh en f nest x r else .ok x r)
 rw[← hG] at hne ⊢
 generalize pJo en f 1 nest ts=R at *
 have HG:=Zh hG
 have HS:=Zh hs1
 have HZ:=Zh hz1
 have HNe:=Zh hne
 have HC:=Zh hC
 have c1:=hs1.env.cr
 have c2:=hs1.env.cw
 clear hG hs1 hz1 hne hr he hpj hJ hC
 go_enter Tryz.func107,Tryz.ntmps107
 go_upto_region 1 with fail
 rw[← hW1]
 have HWs:Hid (w.heap.size < W1.heap.size):=by rw[hW1];exact Zh (by simp)
 clear hW1
 go_wp2_with fail
 refine HJ.out.mono ?_
 clear HJ c1 c2
 cases R with
 | er p x=>
  rintro e w3 ⟨rfl,ht⟩
  exact⟨rfl,er_fin HG.out (HS.out.t1.trans ht)⟩
 | ok x r2=>
  rintro e w3 ⟨xv,v2,rfl,hx,hr3,ht⟩
  obtain⟨k,o,n,l,c,s,ao,q,qc,rfl⟩:=okE_7 _ _ _ _ hx
  have hs3:=HS.out.call ht hr3
  have hz3:=HZ.out.t1 ht (by have:=hs3.lt;omega)
  obtain⟨B,hB⟩:=nm (w3.heap.size)
  obtain⟨w4,hw4⟩:=nm (w3.alloc (.cells #[Zi k,Zi o,Zi n,.string s,.slice ao q qc,Zi l,Zi c] 66))
  have hb4:Below w3.heap.size w3 w4:=by rw[hw4];exact bel_al _ _
  have hs4:=hs3.bel hb4
  have hz4:=hz3.kept hb4
  have hB4:Row7 w4 B (Zi k) (Zi o) (Zi n) (.string s) (.slice ao q qc) (Zi l) (Zi c):=by rw[hw4,hB];exact Row7.al _ _ _ _ _ _ _ _
  have hx4:=okE_bel (okE_lt hx) hb4
  have HX4:=Zh hx4
  have HBg:Hid (W1.heap.size≤B∧B < w4.heap.size∧rb < w.heap.size):=Zh ⟨by rw[hB];exact ht.size,blk_lt hB4,hs3.lt⟩
  have HC4:=comes_any w4 rb r2 en nest v2 [63] hs4.rd
  have HQ:Hid (∀k,ltB (New noB W1.heap.size) w3.heap.size k→W1.heap.size≤k∧k < B):=Zh fun k hk=>by
   obtain⟨h1,h2⟩:=hk
   rcases h1 with h1 | h1
   ·exact h1.elim
   ·exact⟨h1,by omega⟩
  have HS4:=Zh hs4
  have HZ4:=Zh hz4
  have HB4:=Zh hB4
  have c1:=hs4.env.cr
  clear hx hr3 ht hs3 hz3 hb4 hs4 hz4 hB4 hx4 HS HZ
  generalize ltB (New noB W1.heap.size) w3.heap.size=Q at *
  go_upto_region 2 with fail
  rw[← hw4,← hB]
  clear hw4 hB
  by_cases hq:nxtT r2=[63]
  ·rw[decide_eq_true hq] at HC4
   have HC4:Hid (Calls Tryz.prog 78 #[Zp rb,.string ⟨#[63]⟩] w4 fun e w'=>e=.returned (.bool true)∧Below w4.heap.size w4 w'):=Zh HC4
   have HG2:Hid (G=pCh en f nest x r2):=Zh (by rw[HG.out,PR.bind_ok,if_pos hq])
   have hr2:r2≠[]:=fun h=>by rw[h] at hq;cases hq
   have HCC:Hid (∀U,Below w4.heap.size w4 U→Calls Tryz.prog 109 #[Zp rb,.agg #[Zi k,Zi o,Zi n,.string s,.slice ao q qc,Zi l,Zi c],whV rc wc] U (PrP U rb en nest G (okE (New Q U.heap.size)))):=Zh fun U hU=>by
    rw[HG2.out]
    refine HC.out U Q x _ r2 nest v2 (HS4.out.bel hU).rd hr2 hn (HS4.out.bel hU).env (okE_bel HX4.out hU) (fun k hk=>?_) (by rw[← HG2.out];exact HNe.out)
    have h1:=HQ.out k hk
    have h2:=HBg.out
    have h3:=hU.size
    have h4:=HWs.out
    exact⟨by omega,by omega⟩
   clear HG2 HG hq hr2 HC HNe HX4
   go_wp2_with fail
   refine HC4.out.mono ?_
   rintro e w5 ⟨rfl,hb⟩
   have HS5:=Zh (HS4.out.bel hb)
   have HZ5:=Zh (HZ4.out.kept hb)
   have hB5:=HB4.out.kept hb
   have c1:=HS5.out.env.cr
   have c2:=HS5.out.env.cw
   obtain⟨⟨x0,x1,x2,x3,x4,x5,x6⟩,_⟩:=hB5.cells
   have HCC:=Zh (HCC.out w5 hb)
   clear HC4 HS4 HZ4 HB4 hb hB5
   go_wp2_with fail
   refine HCC.out.mono ?_
   clear HCC c1 c2 x0 x1 x2 x3 x4 x5 x6
   cases G with
   | er p x=>
    rintro e w6 ⟨rfl,ht⟩
    exact⟨rfl,er_fin rfl (HS5.out.t1.trans ht)⟩
   | ok y r3=>
    rintro e w6 ⟨yv,v3,rfl,hy,hr6,ht⟩
    obtain⟨k,o,n,l,c,s,ao,q,qc,rfl⟩:=okE_7 _ _ _ _ hy
    have hz6:=HZ5.out.t1 ht (by have:=HBg.out;omega)
    have HF:=Zh (res_fin rfl okE_f HBg.out.2.2 (HS5.out.t1.trans ht) hz6 hy (P':=New noB w.heap.size) (fun k hk=>.inr (by
     have h1:=HBg.out;have h2:=HWs.out;have h3:=HS5.out.t1.size
     rcases hk with hk | hk
     ·have:=HQ.out k hk;omega
     ·omega)) (fun k hk=>by
     have h1:=HBg.out;have h2:=HWs.out;have h3:=blk_lt HZ5.out
     rcases hk with hk | hk
     ·have:=HQ.out k hk;omega
     ·omega) hr6)
    obtain⟨_,y0,y1,y2,y3,y4,y5,y6⟩:=hz6.cells
    clear hy hr6 ht hz6 HS5 HZ5 HBg HQ HWs
    go_wp2_with fail
    obtain⟨⟨d0,d1,d2,d3,d4,d5,d6⟩,_⟩:=HF.out.1.cells
    exact bodyPost_ret (v:=.agg #[Zi k,Zi o,Zi n,.string s,.slice ao q qc,Zi l,Zi c]) (by simp[results,Tryz.results107,go_sem,d0,d1,d2,d3,d4,d5,d6]) rfl HF.out.2
  ·rw[decide_eq_false hq] at HC4
   have HC4:Hid (Calls Tryz.prog 78 #[Zp rb,.string ⟨#[63]⟩] w4 fun e w'=>e=.returned (.bool false)∧Below w4.heap.size w4 w'):=Zh HC4
   have HG2:Hid (G=.ok x r2):=Zh (by rw[HG.out,PR.bind_ok,if_neg hq])
   clear HG hq HC HNe
   go_wp2_with fail
   refine HC4.out.mono ?_
   rintro e w5 ⟨rfl,hb⟩
   have hs5:=HS4.out.bel hb
   have hz5:=HZ4.out.kept hb
   have hB5:=HB4.out.kept hb
   obtain⟨⟨x0,x1,x2,x3,x4,x5,x6⟩,_⟩:=hB5.cells
   have HF:=Zh (res_fin HG2.out okE_f HBg.out.2.2 hs5.t1 hz5 (okE_bel HX4.out hb) (P':=New noB w.heap.size) (fun k hk=>.inr (by
     have h1:=HBg.out;have h2:=HWs.out;have:=HQ.out k hk;omega)) (fun k hk=>by
     have h1:=HBg.out;have h2:=HWs.out;have:=HQ.out k hk;omega) hs5.rd)
   obtain⟨_,y0,y1,y2,y3,y4,y5,y6⟩:=hz5.cells
   clear HC4 HS4 HZ4 HB4 hb hB5 hs5 hz5 HBg HQ HWs HX4 c1
   go_wp2_with fail
   obtain⟨⟨d0,d1,d2,d3,d4,d5,d6⟩,_⟩:=HF.out.1.cells
   exact bodyPost_ret (v:=.agg #[Zi k,Zi o,Zi n,.string s,.slice ao q qc,Zi l,Zi c]) (by simp[results,Tryz.results107,go_sem,d0,d1,d2,d3,d4,d5,d6]) rfl HF.out.2
theorem expr_all (rb rc wc:Nat) (en:Nat × Nat):∀f,∀g,g≤f→CW rb rc wc en g∧CJ rb rc wc en g∧CU rb rc wc en g∧CP rb rc wc en g
 | 0,g,hg=>by
  obtain rfl:g=0:=by omega
  refine⟨fun U ts nest v _ _ _ h=>absurd (by simp only[pWh]) h,fun U rank ts nest v _ _ _ _ _ h=>absurd (by simp only[pJo]) h,fun U ts nest v _ _ _ h=>absurd (by simp only[pUn]) h,fun U ts nest v _ _ _ h=>absurd (by simp only[pPr]) h⟩
 | f+1,g,hg=>by
  have ih:=expr_all rb rc wc en f
  by_cases h:g≤f
  ·exact ih g h
  ·obtain rfl:g=f+1:=by omega
   obtain⟨cw,cj,cu,cp⟩:=ih f (Nat.le_refl f)
   exact⟨whole_any cj (choice_any cw),joined_any cu (fun g hg=>(ih g hg).2.1),unary_any cu cp,primary_any cw⟩
theorem expression_any (w:World) (rb:Nat) (ts:List Tok) (en:Nat × Nat) (nest:Nat) (v:Value) (hr:RdB w rb ts en nest v) (hn:nest≤200) (hj:JoVar w) (hjn:5≠rb) :
  Calls Tryz.prog 81 #[Zp rb] w (PrP w rb en nest (pW en nest ts) (okE (New noB w.heap.size))):=by
 have hlt:=blk_lt hr.box
 obtain⟨wa,hwa⟩:=nm (w.alloc (.cells #[Zp rb] 101))
 obtain⟨wb,hwb⟩:=nm (wa.alloc (.cells #[Zi 0,Zi 0,Zi 0,Ze,Zn,Zi 0,Zi 0] 66))
 obtain⟨wd,hwd⟩:=nm (wb.alloc (.cells #[.nilFunc] 91))
 obtain⟨W1,hW1⟩:=nm (wd.setCell ⟨w.heap.size+1+1,0,none⟩ (whV w.heap.size (w.heap.size+1+1)))
 have sa:wa.heap.size=w.heap.size+1:=by rw[hwa];simp
 have sb:wb.heap.size=w.heap.size+1+1:=by rw[hwb];simp[sa]
 have ba:Below w.heap.size w wa:=by rw[hwa];exact bel_al _ _
 have bb:Below wa.heap.size wa wb:=by rw[hwb];exact bel_al _ _
 have hd0:wd.heap[w.heap.size+1+1]? = some (.cells #[.nilFunc] 91 (0,0)):=by rw[hwd,← sb];exact heap_alloc_new _ _ rfl
 have bd:Below wb.heap.size wb wd:=by rw[hwd];exact bel_al _ _
 have b1:Below wb.heap.size wb W1:=by rw[hW1];exact bd.setCell (p:=⟨w.heap.size+1+1,0,none⟩) (by show wb.heap.size≤w.heap.size+1+1;omega) _
 have kf:=frozen_of_row wd (w.heap.size+1+1) 0 _ _ hd0
 have kc:wd.cell? ⟨w.heap.size+1+1,0,none⟩=some .nilFunc:=by simp[World.cell?,hd0]
 have bb1:Below wa.heap.size wa W1:=bb.trans (b1.mono bb.size)
 have ba1:Below w.heap.size w W1:=ba.trans (bb1.mono ba.size)
 have kr:W1.cell? ⟨w.heap.size,0,none⟩=some (Zp rb):=(bb1.cell (p:=⟨w.heap.size,0,none⟩) (by show w.heap.size < wa.heap.size;omega)).trans (by rw[hwa];exact cellN _ _ _ 0 _ rfl)
 have hz:z7 W1 (w.heap.size+1):=by
  have h:z7 wb (w.heap.size+1):=by rw[hwb,← sa];exact Row7.al _ _ _ _ _ _ _ _
  exact h.kept b1
 have kw:W1.cell? ⟨w.heap.size+1+1,0,none⟩=some (whV w.heap.size (w.heap.size+1+1)):=by
  have h:=heap_setCell_same wd (w.heap.size+1+1) 0 _ _ (whV w.heap.size (w.heap.size+1+1)) hd0
  rw[← hW1] at h
  simp[World.cell?,h]
 have he:Env W1 rb w.heap.size (w.heap.size+1+1):=⟨kr,kw,by omega,by omega,hj.kept ba1,hjn⟩
 have hr1:=hr.kept ba1
 have HJ:=Zh ((expr_all rb w.heap.size (w.heap.size+1+1) en _ _ (Nat.le_refl _)).1 W1 ts nest v hr1 hn he (pW_ne en nest ts))
 have hpw:pWh en (20 * ts.length+20) nest ts=pW en nest ts:=rfl
 rw[hpw] at HJ
 generalize pW en nest ts=G at *
 have HZ:=Zh hz
 have HT:Hid (T1 rb w W1∧rb < w.heap.size∧w.heap.size+1 < W1.heap.size):=Zh ⟨T1.bel ba1,hlt,blk_lt hz⟩
 clear hr hr1 he hz kr ba bb b1 bb1 ba1 hj hjn hlt hpw hn sa sb hd0 bd
 go_enter Tryz.func81,Tryz.ntmps81
 go_upto_region 2 with fail
 rw[← hwa,← hwb,← hwd]
 clear hwa hwb hwd
 go_upto_region 3 with fail
 rw[← hW1]
 clear hW1 kf kc
 go_wp2_with fail
 refine HJ.out.mono ?_
 clear HJ kw
 obtain⟨ht1,hlt,hzs⟩:=HT.out
 cases G with
 | er p x=>
  rintro e w6 ⟨rfl,ht⟩
  exact⟨rfl,er_fin rfl (ht1.trans ht)⟩
 | ok y r3=>
  rintro e w6 ⟨yv,v3,rfl,hy,hr6,ht⟩
  obtain⟨k,o,n,l,c,s,ao,q,qc,rfl⟩:=okE_7 _ _ _ _ hy
  have hz6:=HZ.out.t1 ht (by omega)
  have HF:=Zh (res_finR rfl okE_f (by omega) hlt (ht1.trans ht) hz6 hy (P':=New noB w.heap.size) (fun k hk=>hk.imp id (fun h=>by omega)) (fun k hk=>by
     rcases hk with hk | hk
     ·exact hk.elim
     ·omega) hr6)
  obtain⟨_,y0,y1,y2,y3,y4,y5,y6⟩:=hz6.cells
  clear hy hr6 ht hz6 HZ HT hlt hzs ht1
  go_wp2_with fail
  obtain⟨⟨d0,d1,d2,d3,d4,d5,d6⟩,_⟩:=HF.out.1.cells
  exact bodyPost_ret (v:=.agg #[Zi k,Zi o,Zi n,.string s,.slice ao q qc,Zi l,Zi c]) (by simp[results,Tryz.results81,go_sem,d0,d1,d2,d3,d4,d5,d6]) rfl HF.out.2
end Go.Proofs.YtlfooogmoigpfaaGreatDoor
namespace Go.Proofs.YtlfooogmoigpfaaGreatDoor
open Go.RowKit Go.Sort
theorem info_parts {t:TypeId} {z:Value} {sz by_:Nat} (h:(Tryz.prog.info? t).map (fun i=>(i.zero,i.size,i.bytes))=some (some z,sz,by_)):∃i0,Tryz.prog.info? t=some i0∧i0.zero=some z∧i0.size=sz∧i0.bytes=by_:=by
 obtain⟨i0,ii,ie⟩:=Option.map_eq_some_iff.1 h
 simp only[Prod.mk.injEq] at ie
 exact⟨i0,ii,ie.1,ie.2.1,ie.2.2⟩
structure ElA (TS TE:TypeId) (z:Value) (sz by_:Nat):Prop where
 u:Tryz.prog.underlying TS=some (.slice TE)
 i:(Tryz.prog.info? TE).map (fun i=>(i.zero,i.size,i.bytes))=some (some z,sz,by_)
 c:z.cells.size=sz
 p:0 < sz
 b:by_≤256
theorem ownA_mono {w:World} {base base':Nat} {T:TypeId} {sz:Nat} {v:Value} {n:Nat} {xs:List Value} (h:w.ownsRow base T sz v n xs) (hb:base'≤base):w.ownsRow base' T sz v n xs:=by
 obtain⟨hl,h⟩:=h
 refine⟨hl,?_⟩
 rcases h with h | ⟨g,cap,cur,e,hg,r⟩
 ·exact .inl h
 ·exact .inr ⟨g,cap,cur,e,by omega,r⟩
theorem appC {TS TE:TypeId} {z:Value} {sz by_:Nat} (E:ElA TS TE z sz by_) {w:World} (ty:TypeId) (base:Nat) (v:Value) (n:Nat) (xs:List Value) (hown:w.ownsRow base TE sz v n xs) (a:Addr) (m c:Nat) (news:List Value) (hl:news.length=m * sz) (hnews:∀j u,news[j]? = some u→w.cell? (a.add j)=some u) (h1:∀u∈news,u.oneCell'=true) (hn:n+m≤1000000000) (hbase:base≤w.heap.size) :
  ∃v' w',(Builtin.append_ #[TS,TS] ty #[v,.slice (some a) m c]).run Tryz.prog w=.ok v' w'∧w'.ownsRow base TE sz v' (n+m) (xs ++ news)∧
   ((∃g cap,v=.slice (some ⟨g,0,none⟩) n cap∧v'=.slice (some ⟨g,0,none⟩) (n+m) cap∧w.grownBy w' (some g))∨(w'.ownsRow w.heap.size TE sz v' (n+m) (xs ++ news)∧w.grownBy w' none)):=by
 have hown0:=hown
 obtain⟨i0,hi',hz0,hz1,hz2⟩:=info_parts E.i
 have hb:=E.b
 have hm:(n+m) * by_≤1000000000 * 256:=Nat.mul_le_mul hn hb
 rcases hown with ⟨hlx,⟨rfl,rfl⟩ | ⟨g,cap,cur,rfl,hbg,hh,hnc,hcm,hcs,ht⟩⟩
 ·have h0:xs=[]:=List.eq_nil_of_length_eq_zero (by rw[hlx,Nat.zero_mul])
  subst h0
  obtain⟨v',w',hr,h2,h3,_⟩:=run_append_own_at (P:=Tryz.prog) (w:=w) w.heap.size TS ty TE i0 z sz by_ E.u hi' hz0 hz1 hz2 E.c E.p (Zn) 0 [] (World.ownsRow_nil _ _ _ _) a m c news hl hnews h1 (by unfold maxLen;omega) (by omega) (Nat.le_refl _)
  exact⟨v',w',hr,ownA_mono h2 hbase,.inr ⟨h2,h3⟩⟩
 ·by_cases hroom:n+m≤cap
  ·obtain⟨w',hr,h2,h3⟩:=run_append_own_spare (P:=Tryz.prog) (w:=w) base TS ty TE i0 sz E.u hi' hz1 g n cap xs hown0 a m c news hl hnews h1 hroom
   exact⟨_,w',hr,h2,.inl ⟨g,cap,rfl,rfl,h3⟩⟩
  ·have hfit:Builtin.nextslicecap (n+m) cap * i0.bytes≤281474976710656:=growslice_fits (by omega) (by rw[hz2];omega)
   have hr:=run_append_grow (P:=Tryz.prog) w TS ty TE i0 z E.u hi' hz0 ⟨g,0,none⟩ n cap xs (by rw[hz1];exact hlx) (World.ownsRow.cells hown0 rfl) a m c news (by rw[hz1];exact hl) hnews (by omega) (by omega) hfit
   have hlen:(xs ++ news).length=(n+m) * sz:=by rw[List.length_append,hl,hlx,Nat.add_mul]
   have hO:(w.drew.alloc (.cells (xs.toArray ++ news.toArray ++ Builtin.zeroCells z.cells (grownCap w (n+m) cap TE - (n+m))) TE)).ownsRow w.heap.size TE sz (.slice (some ⟨w.heap.size,0,none⟩) (n+m) (grownCap w (n+m) cap TE)) (n+m) (xs ++ news):=by
    refine⟨hlen,.inr ⟨w.heap.size,_,_,rfl,Nat.le_refl _,Go.heap_alloc_new w.drew _,grownCap_ge w (n+m) cap TE,grownCap_le_maxLen w (n+m) cap TE (by unfold maxLen;omega),?_,?_⟩⟩
    ·have hge:=grownCap_ge w (n+m) cap TE
     simp only[Array.size_append,List.size_toArray,size_zeroCells,E.c,hl,hlx]
     generalize grownCap w (n+m) cap TE=G at *
     rw[← Nat.add_mul,← Nat.add_mul,show n+m+(G - (n+m))=G by omega]
    ·simp only[Array.toList_append,List.append_assoc]
     rw[← List.append_assoc,← hlen]
     exact List.take_left
   exact⟨_,_,hr,ownA_mono hO hbase,.inr ⟨hO,⟨rfl,rfl,rfl,by simp,fun k hk _=>Go.heap_alloc_old w.drew _ hk⟩⟩⟩
theorem wpL_appR {w:World} {ops:Array Oper} {rest:List Oper} {o:Oper} {a:Act} {Q:Exit→Act→World→Prop} (hgd:o.guard=none) (s x:Operand) (TS:TypeId)
  (ho:o.op=.call { callee:=.builtin .append,args:=#[s,x],argTypes:=#[TS,TS] }) (v u:Value) (hs:a.eval s=v) (hx:a.eval x=u) {post:Value→World→Prop}
  (hr:∀ty,∃v' w',(Builtin.append_ #[TS,TS] ty #[v,u]).run Tryz.prog w=.ok v' w'∧post v' w') (h:∀v' w',post v' w'→wpList Tryz.prog ops Q rest (a.put o.dst v') w'):wpList Tryz.prog ops Q (o :: rest) a w:=by
 obtain⟨v',w',hr,h2⟩:=hr o.type
 refine wpList_plain hgd fun K hK'=>?_
 unfold Oper.wp
 simp[execOp,ho,resolve,invoke,builtin,hs,hx,hr,Result.andThen]
 exact hK' _ _ (h v' w' h2)
end Go.Proofs.YtlfooogmoigpfaaGreatDoor
namespace Go.Proofs.YtlfooogmoigpfaaGreatDoor
open Go.RowKit Go.Sort Go.Shelf
structure RApp (W w':World) (base T sz:Nat) (v v':Value) (n:Nat) (xs:List Value):Prop where
 own:w'.ownsRow base T sz v' (n+1) xs
 bel:Below base W w'
 oth:∀k,k < W.heap.size→v.ownBlock≠some k→w'.heap[k]? = W.heap[k]?
 blk:v'.ownBlock=v.ownBlock∨∀k,v'.ownBlock=some k→W.heap.size≤k
 shp:∃ao c,v'=.slice ao (n+1) c
theorem row_app {TS TE:TypeId} {z:Value} {sz by_:Nat} (E:ElA TS TE z sz by_) {W:World} {base n:Nat} {v:Value} {xs:List Value} (h:W.ownsRow base TE sz v n xs) (news:List Value) (hl:news.length=sz) (h1:∀u∈news,u.oneCell'=true) (hn:n≤1000000) (hbase:base≤W.heap.size) (ty:TypeId) :
  ∃v' w',(Builtin.append_ #[TS,TS] ty #[v,.slice (some ⟨W.heap.size,0,none⟩) 1 1]).run Tryz.prog (W.alloc (.cells news.toArray TE))=.ok v' w'∧RApp W w' base TE sz v v' n (xs ++ news):=by
 have hb:=bel_al W (.cells news.toArray TE)
 obtain⟨v',w',hr,ho,hc⟩:=appC E ty base v n xs (World.ownsRow.alloc h _) ⟨W.heap.size,0,none⟩ 1 1 news (by omega) (src_at W _ _) h1 (by omega) (Nat.le_trans hbase hb.size)
 obtain⟨a',c',e',_⟩:=own_slice ho
 rcases hc with ⟨g,cap,e1,e2,hg⟩ | ⟨ho2,hg⟩
 ·refine⟨v',w',hr,ho,?_,fun k hk hn=>?_,.inl (by rw[e1,e2];rfl),⟨a',c',e'⟩⟩
  ·exact (hb.mono hbase).trans (below_grownS hg (B:=base) (fun g' e=>by cases e;exact (World.ownsRow.lt h g (by rw[e1];rfl)).1) (Nat.le_trans hbase hb.size))
  ·exact (hg.block k (Nat.lt_of_lt_of_le hk hb.size) (fun e=>hn (by rw[e1];exact e.symm))).trans (hb.block k hk)
 ·refine⟨v',w',hr,ho,?_,fun k hk hn=>?_,.inr (fun k hk=>Nat.le_trans hb.size (World.ownsRow.lt ho2 k hk).1),⟨a',c',e'⟩⟩
  ·exact (hb.mono hbase).trans (below_grownS hg (B:=base) (fun g' e=>by cases e) (Nat.le_trans hbase hb.size))
  ·exact (hg.block k (Nat.lt_of_lt_of_le hk hb.size) (fun e=>by cases e)).trans (hb.block k hk)
theorem row_lit (W:World) (T sz:Nat) (cs:List Value) (hl:cs.length=sz):(W.alloc (.cells cs.toArray T)).ownsRow W.heap.size T sz (.slice (some ⟨W.heap.size,0,none⟩) 1 1) 1 cs:=
 ⟨by omega,.inr ⟨W.heap.size,1,cs.toArray,rfl,Nat.le_refl _,heap_alloc_new _ _ rfl,Nat.le_refl _,by unfold maxLen;omega,by simp;omega,by simp;rw[← hl];exact List.take_length⟩⟩
abbrev nmA (n:NmP):List Value:=[.string (S n.1),Zi (n.2.1:Int),Zi (n.2.2:Int)]
def nmC:List NmP→List Value
 | []=>[]
 | n :: r=>nmA n ++ nmC r
theorem nmC_app (a b:List NmP):nmC (a ++ b)=nmC a ++ nmC b:=by
 induction a with
 | nil=>rfl
 | cons x r ih=>show nmA x ++ nmC (r ++ b)=_;rw[ih];exact (List.append_assoc ..).symm
def okNs (P:Nat→Prop) (l:List NmP) (v:Value) (W:World):Prop:=W.ownsRow 0 89 3 v l.length (nmC l)∧∀g,v.ownBlock=some g→P g
theorem okNs_f:OkvF okNs:=fun _ _ _ _ _ _ h hp hs=>⟨ownsRow_same h.1 (fun g hg=>hs g (h.2 g hg) (World.ownsRow.lt h.1 g hg).2),fun g hg=>hp g (h.2 g hg)⟩
theorem okNs_s:AggS okNs:=fun _ _ _ _ h=>by
 obtain⟨ao,c,e,_⟩:=own_slice h.1
 exact⟨_,_,_,e⟩
mutual
inductive RwS (P:Nat→Prop) (W:World):List St→Value→Prop where
 | row (v:Value) (l:List St) (cs:List Value):W.ownsRow 0 117 20 v l.length cs→(∀g,v.ownBlock=some g→P g)→StsC P W l cs→RwS P W l v
inductive StsC (P:Nat→Prop) (W:World):List St→List Value→Prop where
 | nil:StsC P W [] []
 | cons (k:Nat) (nm:List UInt8) (x y:Ex) (body els:List St) (p:Nat × Nat) (x0 x1 x2 x3 x4 x5 x6 y0 y1 y2 y3 y4 y5 y6 B E:Value) (l:List St) (cs:List Value):okE P x (.agg #[x0,x1,x2,x3,x4,x5,x6]) W→okE P y (.agg #[y0,y1,y2,y3,y4,y5,y6]) W→RwS P W body B→RwS P W els E→StsC P W l cs→StsC P W (.mk k nm x y body els p :: l) (Zi (k:Int) :: .string (S nm) :: x0 :: x1 :: x2 :: x3 :: x4 :: x5 :: x6 :: y0 :: y1 :: y2 :: y3 :: y4 :: y5 :: y6 :: B :: E :: Zi (p.1:Int) :: Zi (p.2:Int) :: cs)
end
mutual
theorem RwS.kept {P P':Nat→Prop} {W W':World} (hp:∀k,P k→P' k) (hs:∀k,P k→k < W.heap.size→W'.heap[k]? = W.heap[k]?) {l:List St} {v:Value} : RwS P W l v→RwS P' W' l v
 | .row v l cs h1 h2 h3=>.row v l cs (ownsRow_same h1 (fun g hg=>hs g (h2 g hg) (World.ownsRow.lt h1 g hg).2)) (fun g hg=>hp g (h2 g hg)) (StsC.kept hp hs h3)
theorem StsC.kept {P P':Nat→Prop} {W W':World} (hp:∀k,P k→P' k) (hs:∀k,P k→k < W.heap.size→W'.heap[k]? = W.heap[k]?) {l:List St} {cs:List Value} : StsC P W l cs→StsC P' W' l cs
 | .nil=>.nil
 | .cons k nm x y body els p x0 x1 x2 x3 x4 x5 x6 y0 y1 y2 y3 y4 y5 y6 B E l cs h1 h2 h3 h4 h5=>.cons k nm x y body els p x0 x1 x2 x3 x4 x5 x6 y0 y1 y2 y3 y4 y5 y6 B E l cs (okE_f _ _ _ _ _ _ h1 hp hs) (okE_f _ _ _ _ _ _ h2 hp hs) (RwS.kept hp hs h3) (RwS.kept hp hs h4) (StsC.kept hp hs h5)
end
mutual
theorem RwS.lt {P:Nat→Prop} {W:World} {l:List St} {v:Value} : RwS P W l v→RwS (ltB P W.heap.size) W l v
 | .row v l cs h1 h2 h3=>.row v l cs h1 (fun g hg=>⟨h2 g hg,(World.ownsRow.lt h1 g hg).2⟩) (StsC.lt h3)
theorem StsC.lt {P:Nat→Prop} {W:World} {l:List St} {cs:List Value} : StsC P W l cs→StsC (ltB P W.heap.size) W l cs
 | .nil=>.nil
 | .cons k nm x y body els p x0 x1 x2 x3 x4 x5 x6 y0 y1 y2 y3 y4 y5 y6 B E l cs h1 h2 h3 h4 h5=>.cons k nm x y body els p x0 x1 x2 x3 x4 x5 x6 y0 y1 y2 y3 y4 y5 y6 B E l cs (okE_lt h1) (okE_lt h2) (RwS.lt h3) (RwS.lt h4) (StsC.lt h5)
end
theorem RwS.slice {P:Nat→Prop} {W:World} {l:List St} {v:Value} : RwS P W l v→∃ao c,v=.slice ao l.length c
 | .row _ _ _ h1 _ _=>by
  obtain⟨ao,c,e,_⟩:=own_slice h1
  exact⟨ao,c,e⟩
theorem RwS.nil (P:Nat→Prop) (W:World):RwS P W [] (Zn):=.row _ _ [] ⟨rfl,.inl ⟨rfl,rfl⟩⟩ (fun g hg=>by cases hg) .nil
theorem StsC.len {P:Nat→Prop} {W:World} : ∀{l:List St} {cs:List Value},StsC P W l cs→cs.length=l.length * 20
 | _,_,.nil=>rfl
 | _,_,.cons _ _ _ _ _ _ _ _ _ _ _ _ _ _ _ _ _ _ _ _ _ _ _ _ _ _ _ _ _ h=>by
  have:=StsC.len h
  simp only[List.length_cons]
  omega
theorem StsC.app {P:Nat→Prop} {W:World} : ∀{l m:List St} {cs ds:List Value},StsC P W l cs→StsC P W m ds→StsC P W (l ++ m) (cs ++ ds)
 | _,_,_,_,.nil,h=>h
 | _,_,_,_,.cons k nm x y body els p x0 x1 x2 x3 x4 x5 x6 y0 y1 y2 y3 y4 y5 y6 B E l cs h1 h2 h3 h4 h5,h=>.cons k nm x y body els p x0 x1 x2 x3 x4 x5 x6 y0 y1 y2 y3 y4 y5 y6 B E _ _ h1 h2 h3 h4 (StsC.app h5 h)
def okSs (P:Nat→Prop) (l:List St) (v:Value) (W:World):Prop:=RwS P W l v
theorem okSs_f:OkvF okSs:=fun _ _ _ _ _ _ h hp hs=>h.kept hp hs
theorem okSs_s:AggS okSs:=fun _ _ _ _ h=>by
 obtain⟨ao,c,e⟩:=RwS.slice h
 exact⟨_,_,_,e⟩
def okSt (P:Nat→Prop) (s:St) (v:Value) (W:World):Prop:=∃a:List Value,v=.agg a.toArray∧StsC P W [s] a
theorem okSt_f:OkvF okSt:=fun _ _ _ _ _ _ h hp hs=>⟨h.choose,h.choose_spec.1,h.choose_spec.2.kept hp hs⟩
def Agg20 {α:Type} (okv:(Nat→Prop)→α→Value→World→Prop):Prop:=∀P x v W,okv P x v W→∃(k xk xo xn xl xc yk yo yn yl yc l c:Int) (s xs ys:ByteArray) (xa ya ba ea:Option Addr) (xq xqc yq yqc bq bqc eq eqc:Nat),v=.agg #[Zi k,.string s,Zi xk,Zi xo,Zi xn,.string xs,.slice xa xq xqc,Zi xl,Zi xc,Zi yk,Zi yo,Zi yn,.string ys,.slice ya yq yqc,Zi yl,Zi yc,.slice ba bq bqc,.slice ea eq eqc,Zi l,Zi c]
theorem okSt_20:Agg20 okSt:=by
 intro P s v W h
 obtain⟨a,rfl,h⟩:=h
 cases h with
 | cons k nm x y body els p x0 x1 x2 x3 x4 x5 x6 y0 y1 y2 y3 y4 y5 y6 B E l cs h1 h2 h3 h4 h5=>
  cases h5
  obtain⟨xk,xo,xn,xl,xc,xs,xa,xq,xqc,e1⟩:=okE_7 _ _ _ _ h1
  obtain⟨yk,yo,yn,yl,yc,ys,ya,yq,yqc,e2⟩:=okE_7 _ _ _ _ h2
  obtain⟨ba,bc,rfl⟩:=h3.slice
  obtain⟨ea,ec,rfl⟩:=h4.slice
  simp only[Value.agg.injEq,Array.mk.injEq,List.cons.injEq,and_true] at e1 e2
  obtain⟨rfl,rfl,rfl,rfl,rfl,rfl,rfl⟩:=e1
  obtain⟨rfl,rfl,rfl,rfl,rfl,rfl,rfl⟩:=e2
  exact⟨_,_,_,_,_,_,_,_,_,_,_,_,_,_,_,_,_,_,_,_,_,_,_,_,_,_,_,_,rfl⟩
structure QS (w W:World) (rb:Nat) (ts:List Tok) (en:Nat × Nat) (nest:Nat) (v:Value):Prop where
 lt:rb < w.heap.size
 t1:T1 rb w W
 rd:RdB W rb ts en nest v
 jw:JoVar w
 jn:5≠rb
section
variable {w W W':World} {rb:Nat} {ts ts':List Tok} {en:Nat × Nat} {nest nest':Nat} {v v':Value}
theorem QS.start (hr:RdB w rb ts en nest v) (hj:JoVar w) (hn:5≠rb):QS w w rb ts en nest v:=⟨blk_lt hr.box,T1.bel (Below.refl _ _),hr,hj,hn⟩
theorem QS.bel (h:QS w W rb ts en nest v) (hb:Below W.heap.size W W'):QS w W' rb ts en nest v:=⟨h.lt,h.t1.trans (T1.bel hb),h.rd.kept hb,h.jw,h.jn⟩
theorem QS.call (h:QS w W rb ts en nest v) (ht:T1 rb W W') (hr:RdB W' rb ts' en nest' v'):QS w W' rb ts' en nest' v':=⟨h.lt,h.t1.trans ht,hr,h.jw,h.jn⟩
theorem QS.low (h:QS w W rb ts en nest v) (hb:Below w.heap.size W W'):QS w W' rb ts en nest v:=⟨h.lt,h.t1.low hb,h.rd.low hb h.lt,h.jw,h.jn⟩
theorem QS.jo (h:QS w W rb ts en nest v):JoVar W:=h.jw.t1 h.t1 h.jn
theorem QS.ge (h:QS w W rb ts en nest v):w.heap.size≤W.heap.size:=h.t1.size
theorem QS.expr (h:QS w W rb ts en nest v) (hn:nest≤200):Calls Tryz.prog 81 #[Zp rb] W (PrP W rb en nest (pW en nest ts) (okE (New noB W.heap.size))):=expression_any W rb ts en nest v h.rd hn h.jo h.jn
end
theorem nameE:ElA 70 89 (.agg #[Ze,Zi 0,Zi 0]) 3 32:=⟨Tryz.underlying70,by kernel_rfl,rfl,by decide,by decide⟩
structure NL (w wr:World) (rb:Nat) (en:Nat × Nat) (nest:Nat) (G:PR (List NmP)) (f:Nat) (acc:List NmP) (ts:List Tok) (v:Value) (x:Value):Prop where
 qs:QS w wr rb ts en nest v
 own:wr.ownsRow w.heap.size 89 3 x acc.length (nmC acc)
 eq:G=pNs en f acc ts
 ln:acc.length+ts.length≤100000
theorem pNs_shr (en:Nat × Nat):∀f acc ts n,ts.length≤n→Shr n (pNs en f acc ts)
 | 0,_,_,_,_=>by simp only[pNs];trivial
 | f+1,acc,ts,n,hn=>by
  simp only[pNs]
  split
  ·exact (name_shr (tail_le hn)).bind fun nm r hr=>pNs_shr en f _ r n hr
  ·exact hn
theorem pNames_shr {en:Nat × Nat} {ts:List Tok} {n:Nat} (hn:ts.length≤n):Shr n (pNames en ts):=(name_shr hn).bind fun _ r hr=>pNs_shr en _ _ r n hr
theorem pName_lt {en:Nat × Nat} {ts r:List Tok} {x:NmP} (h:pName en ts=.ok x r):r.length+1=ts.length:=by
 unfold pName at h
 split at h
 ·rename_i hk
  simp only[PR.ok.injEq] at h
  rw[← h.2]
  exact tail_ltK hk (by decide)
 ·cases h
theorem names_any (w:World) (rb:Nat) (ts:List Tok) (en:Nat × Nat) (nest:Nat) (v:Value) (hr:RdB w rb ts en nest v) (hj:JoVar w) (hjn:5≠rb) (hl:ts.length≤70000) :
  Calls Tryz.prog 85 #[Zp rb] w (PrP w rb en nest (pNames en ts) (okNs (New noB w.heap.size))):=by
 have hq:=QS.start hr hj hjn
 have HN:=name_any w rb ts en nest v hr
 obtain⟨G,hG⟩:∃z,z=pNames en ts:=⟨_,rfl⟩
 have HNe:Hid (G≠.er (0,0) 0):=Zh (by rw[hG];exact (pNames_fine (Nat.le_refl _)).ne)
 rw[← hG]
 unfold pNames at hG
 obtain⟨M,hM⟩:∃z,z=pName en ts:=⟨_,rfl⟩
 rw[← hM] at HN hG
 have HM:=Zh hM
 have HG:=Zh hG
 have HQ:=Zh hq
 have HN:=Zh HN
 have HL:Hid (ts.length≤70000):=hl
 clear hr hj hjn hq hG hM hl
 go_enter Tryz.func85,Tryz.ntmps85
 go_wp2_with fail
 refine HN.out.mono ?_
 clear HN
 cases M with
 | er p x=>
  rintro e w1 ⟨rfl,ht⟩
  exact⟨rfl,er_fin HG.out ht⟩
 | ok nm r=>
  rintro e w1 ⟨nv,v1,rfl,rfl,hr1,ht⟩
  obtain⟨w2,hw2⟩:∃z,z=w1.alloc (.cells #[.string (S nm.1),Zi (nm.2.1:Int),Zi (nm.2.2:Int)] 89):=⟨_,rfl⟩
  have hb2:Below w1.heap.size w1 w2:=by rw[hw2];exact bel_al _ _
  have hq1:=HQ.out.call ht hr1
  have hown:w2.ownsRow w.heap.size 89 3 (.slice (some ⟨w1.heap.size,0,none⟩) 1 1) 1 (nmC [nm]):=by rw[hw2];exact ownsRow_mono (row_lit w1 _ 3 (nmA nm) rfl) hq1.ge
  have HL:Hid (∃f acc ts v x,(.slice (some ⟨w1.heap.size,0,none⟩) 1 1:Value)=x∧NL w w2 rb en nest G f acc ts v x):=Zh ⟨_,[nm],r,v1,_,rfl,hq1.bel hb2,hown,HG.out,by have:=pName_lt HM.out.symm;have:=HL.out;simp only[List.length_singleton];omega⟩
  clear hr1 ht hb2 hq1 hown HQ HG HM
  go_upto_region 2 with fail
  rw[← hw2]
  clear hw2
  go_loopw[3] (fun s wr=>Hid (∃f acc ts v x,s=x∧NL w wr rb en nest G f acc ts v x)) (fun _ wr=>measT rb wr)
  case atStart=>exact HL
  case round=>
   clear HL
   obtain⟨f,acc,ts,v,x,rfl,hL⟩:=hrel.out
   have hrel:=hL.own
   obtain⟨xa,xc,rfl,hx3⟩:=own_slice hL.own
   clear hx3
   have hne:pNs en f acc ts≠.er (0,0) 0:=by rw[← hL.eq];exact HNe.out
   obtain⟨f,rfl⟩:∃f',f=f'+1:=by
    cases f with
    | zero=>exact absurd (by simp only[pNs]) hne
    | succ f=>exact⟨f,rfl⟩
   have hg:=hL.eq
   simp only[pNs] at hg
   have HM:Hid (measT rb wr=ts.length):=Zh (measT_rd hL.qs.rd)
   have HT:=takes_any wr rb ts en nest v [44] (by decide) hL.qs.rd
   have HLn:Hid (acc.length+ts.length≤100000):=hL.ln
   have HQ:=Zh hL.qs
   obtain⟨n,hn⟩:∃z,z=acc.length:=⟨_,rfl⟩
   rw[← hn] at hrel
   have HOw:=Zh hrel
   rw[← hn]
   have HNn:=Zh hn
   clear hrel hL hne hn
   by_cases hq:nxtT ts=[44]
   ·rw[decide_eq_true hq,if_pos hq] at HT
    rw[if_pos hq] at hg
    have HTl:=Zh (tail_lt hq (by decide))
    have HT:Hid (Calls Tryz.prog 44 #[Zp rb,.string ⟨#[44]⟩] wr fun e w'=>e=.returned (.bool true)∧T1 rb wr w'∧∃v',RdB w' rb ts.tail en nest v'):=Zh HT
    have HN:=Zh (fun U v' (h:RdB U rb ts.tail en nest v')=>name_any U rb ts.tail en nest v' h)
    obtain⟨M,hM⟩:∃z,z=pName en ts.tail:=⟨_,rfl⟩
    rw[← hM] at HN hg
    have HMm:=Zh hM
    have HG:=Zh hg
    clear hq hM hg
    go_wp2_with fail
    refine HT.out.mono ?_
    clear HT
    rintro e w5 ⟨rfl,ht5,v5,hr5⟩
    have hlt:=HQ.out.lt
    have hgb:=HQ.out.ge
    have HQ5:=Zh (HQ.out.call ht5 hr5)
    have HN5:=Zh (HN.out w5 v5 hr5)
    have HO5:=Zh (ownsRow_same HOw.out (fun g hg=>ht5.block g (World.ownsRow.lt HOw.out g hg).2 (by have:=(World.ownsRow.lt HOw.out g hg).1;omega)))
    clear hr5 ht5 HQ HOw HN hlt hgb
    go_wp2_with fail
    refine HN5.out.mono ?_
    clear HN5
    cases M with
    | er p x=>
     rintro e w6 ⟨rfl,ht⟩
     exact⟨rfl,er_fin HG.out (HQ5.out.t1.trans ht)⟩
    | ok nm r2=>
     rintro e w6 ⟨nv,v6,rfl,rfl,hr6,ht⟩
     have hlt:=HQ5.out.lt
     have hq6:=HQ5.out.call ht hr6
     have ho6:=ownsRow_same HO5.out (fun g hg=>ht.block g (World.ownsRow.lt HO5.out g hg).2 (by have:=(World.ownsRow.lt HO5.out g hg).1;omega))
     have HAp:=Zh (row_app nameE ho6 (nmA nm) rfl (by intro u hu;simp at hu;rcases hu with rfl | rfl | rfl <;> rfl) (by have:=HLn.out;have:=HNn.out;omega) hq6.ge)
     have HQ6:=Zh hq6
     have hgl:=HG.out
     rw[PR.bind_ok] at hgl
     have HG2:=Zh hgl
     have HL2:Hid (r2.length+1=ts.tail.length):=Zh (pName_lt HMm.out.symm)
     clear hr6 ht ho6 hq6 hlt HQ5 HO5 HG HMm hgl
     go_wp2_with (at_builtin;refine wpL_appR rfl _ _ 70 rfl (.slice xa n xc) (.slice (some ⟨w6.heap.size,0,none⟩) 1 1) rfl rfl HAp.out ?_;rintro v2 w7 hRA)
     obtain⟨va,vc,rfl⟩:=hRA.shp
     have HRA:=Zh hRA
     have HLe:Hid (∃f acc ts v x,(.slice va (n+1) vc:Value)=x∧NL w w7 rb en nest G f acc ts v x):=Zh ⟨f,acc ++ [nm],r2,v6,_,rfl,HQ6.out.low HRA.out.bel,by
      have h:=HRA.out.own
      rw[HNn.out] at h ⊢
      rw[nmC_app,List.length_append]
      exact h,HG2.out,by
      have h1:=HLn.out;have h2:=HL2.out;have h3:=HTl.out
      rw[List.length_append,List.length_singleton];omega⟩
     have HMe:Hid (measT rb w7 < measT rb wr):=Zh (by
      rw[HM.out,measT_rd (HQ6.out.low HRA.out.bel).rd];have h2:=HL2.out;have h3:=HTl.out;omega)
     clear hRA HRA HAp HQ6 HG2 HL2 HLn HNn HTl HM
     go_wp2_with fail
     go_roundw
     case rel=>exact HLe
     case measure=>exact HMe.out
   ·rw[decide_eq_false hq,if_neg hq] at HT
    rw[if_neg hq] at hg
    have HT:Hid (Calls Tryz.prog 44 #[Zp rb,.string ⟨#[44]⟩] wr fun e w'=>e=.returned (.bool false)∧T1 rb wr w'∧∃v',RdB w' rb ts en nest v'):=Zh HT
    have HG:=Zh hg
    clear hq hg
    go_wp2_with fail
    refine HT.out.mono ?_
    clear HT
    rintro e w5 ⟨rfl,ht5,v5,hr5⟩
    have hlt:=HQ.out.lt
    have hq5:=HQ.out.call ht5 hr5
    have ho5:=ownsRow_same HOw.out (fun g hg=>ht5.block g (World.ownsRow.lt HOw.out g hg).2 (by have:=(World.ownsRow.lt HOw.out g hg).1;omega))
    have HF:Hid (PrP w rb en nest G (okNs (New noB w.heap.size)) (.returned (.slice xa n xc)) w5):=Zh (by
     rw[HG.out]
     rw[HNn.out] at ho5 ⊢
     exact⟨_,v5,rfl,⟨ownsRow_mono ho5 (Nat.zero_le _),fun g hg=>.inr (World.ownsRow.lt ho5 g hg).1⟩,hq5.rd,hq5.t1⟩)
    clear hr5 ht5 hlt hq5 ho5 HG HQ HOw HNn HM HLn HNe
    go_wp2_with fail
    exact bodyPost_ret (v:=.slice xa n xc) (by simp[results,Tryz.results85,go_sem]) rfl HF.out
def Row20 (W:World) (R:Nat) (v0 v1 v2 v3 v4 v5 v6 v7 v8 v9 v10 v11 v12 v13 v14 v15 v16 v17 v18 v19:Value):Prop:=W.heap[R]? = some (.cells #[v0,v1,v2,v3,v4,v5,v6,v7,v8,v9,v10,v11,v12,v13,v14,v15,v16,v17,v18,v19] 117 (0,0))
theorem Row20.kept {w w':World} {R:Nat} {v0 v1 v2 v3 v4 v5 v6 v7 v8 v9 v10 v11 v12 v13 v14 v15 v16 v17 v18 v19:Value} (h:Row20 w R v0 v1 v2 v3 v4 v5 v6 v7 v8 v9 v10 v11 v12 v13 v14 v15 v16 v17 v18 v19) (hb:Below w.heap.size w w'):Row20 w' R v0 v1 v2 v3 v4 v5 v6 v7 v8 v9 v10 v11 v12 v13 v14 v15 v16 v17 v18 v19:=(hb.block _ (blk_lt h)).trans h
theorem Row20.t1 {sb:Nat} {w w':World} {R:Nat} {v0 v1 v2 v3 v4 v5 v6 v7 v8 v9 v10 v11 v12 v13 v14 v15 v16 v17 v18 v19:Value} (h:Row20 w R v0 v1 v2 v3 v4 v5 v6 v7 v8 v9 v10 v11 v12 v13 v14 v15 v16 v17 v18 v19) (ht:T1 sb w w') (hn:R≠sb):Row20 w' R v0 v1 v2 v3 v4 v5 v6 v7 v8 v9 v10 v11 v12 v13 v14 v15 v16 v17 v18 v19:=(ht.block R (blk_lt h) hn).trans h
theorem Row20.cells {W:World} {R:Nat} {v0 v1 v2 v3 v4 v5 v6 v7 v8 v9 v10 v11 v12 v13 v14 v15 v16 v17 v18 v19:Value} (h:Row20 W R v0 v1 v2 v3 v4 v5 v6 v7 v8 v9 v10 v11 v12 v13 v14 v15 v16 v17 v18 v19):W.cell? ⟨R,0,none⟩=some v0∧W.cell? ⟨R,1,none⟩=some v1∧W.cell? ⟨R,2,none⟩=some v2∧W.cell? ⟨R,3,none⟩=some v3∧W.cell? ⟨R,4,none⟩=some v4∧W.cell? ⟨R,5,none⟩=some v5∧W.cell? ⟨R,6,none⟩=some v6∧W.cell? ⟨R,7,none⟩=some v7∧W.cell? ⟨R,8,none⟩=some v8∧W.cell? ⟨R,9,none⟩=some v9∧W.cell? ⟨R,10,none⟩=some v10∧W.cell? ⟨R,11,none⟩=some v11∧W.cell? ⟨R,12,none⟩=some v12∧W.cell? ⟨R,13,none⟩=some v13∧W.cell? ⟨R,14,none⟩=some v14∧W.cell? ⟨R,15,none⟩=some v15∧W.cell? ⟨R,16,none⟩=some v16∧W.cell? ⟨R,17,none⟩=some v17∧W.cell? ⟨R,18,none⟩=some v18∧W.cell? ⟨R,19,none⟩=some v19:=by
 unfold Row20 at h
 exact⟨by simp[World.cell?,h],by simp[World.cell?,h],by simp[World.cell?,h],by simp[World.cell?,h],by simp[World.cell?,h],by simp[World.cell?,h],by simp[World.cell?,h],by simp[World.cell?,h],by simp[World.cell?,h],by simp[World.cell?,h],by simp[World.cell?,h],by simp[World.cell?,h],by simp[World.cell?,h],by simp[World.cell?,h],by simp[World.cell?,h],by simp[World.cell?,h],by simp[World.cell?,h],by simp[World.cell?,h],by simp[World.cell?,h],by simp[World.cell?,h]⟩
theorem Row20.frz {W:World} {R:Nat} {v0 v1 v2 v3 v4 v5 v6 v7 v8 v9 v10 v11 v12 v13 v14 v15 v16 v17 v18 v19:Value} (h:Row20 W R v0 v1 v2 v3 v4 v5 v6 v7 v8 v9 v10 v11 v12 v13 v14 v15 v16 v17 v18 v19):W.frozen? ⟨R,0,none⟩=false∧W.frozen? ⟨R,1,none⟩=false∧W.frozen? ⟨R,2,none⟩=false∧W.frozen? ⟨R,3,none⟩=false∧W.frozen? ⟨R,4,none⟩=false∧W.frozen? ⟨R,5,none⟩=false∧W.frozen? ⟨R,6,none⟩=false∧W.frozen? ⟨R,7,none⟩=false∧W.frozen? ⟨R,8,none⟩=false∧W.frozen? ⟨R,9,none⟩=false∧W.frozen? ⟨R,10,none⟩=false∧W.frozen? ⟨R,11,none⟩=false∧W.frozen? ⟨R,12,none⟩=false∧W.frozen? ⟨R,13,none⟩=false∧W.frozen? ⟨R,14,none⟩=false∧W.frozen? ⟨R,15,none⟩=false∧W.frozen? ⟨R,16,none⟩=false∧W.frozen? ⟨R,17,none⟩=false∧W.frozen? ⟨R,18,none⟩=false∧W.frozen? ⟨R,19,none⟩=false:=by
 unfold Row20 at h
 exact⟨frozen_of_row W R 0 _ _ h,frozen_of_row W R 1 _ _ h,frozen_of_row W R 2 _ _ h,frozen_of_row W R 3 _ _ h,frozen_of_row W R 4 _ _ h,frozen_of_row W R 5 _ _ h,frozen_of_row W R 6 _ _ h,frozen_of_row W R 7 _ _ h,frozen_of_row W R 8 _ _ h,frozen_of_row W R 9 _ _ h,frozen_of_row W R 10 _ _ h,frozen_of_row W R 11 _ _ h,frozen_of_row W R 12 _ _ h,frozen_of_row W R 13 _ _ h,frozen_of_row W R 14 _ _ h,frozen_of_row W R 15 _ _ h,frozen_of_row W R 16 _ _ h,frozen_of_row W R 17 _ _ h,frozen_of_row W R 18 _ _ h,frozen_of_row W R 19 _ _ h⟩
theorem setR_same {W:World} {R:Nat} {cur cs:Array Value} {T:TypeId} (h:W.heap[R]? = some (.cells cur T (0,0))):(W.setRow R cs).heap[R]? = some (.cells cs T (0,0)):=by
 simp[World.setRow,Array.getElem?_modify,h]
theorem setR_other {W:World} {R k:Nat} (hk:k≠R) (cs:Array Value):(W.setRow R cs).heap[k]? = W.heap[k]?:=by
 unfold World.setRow
 rw[Array.getElem?_modify,if_neg (fun e=>hk e.symm)]
theorem setR_below {C:Nat} {W0 W:World} (hb:Below C W0 W) {R:Nat} (hR:C≤R) (cs:Array Value):Below C W0 (W.setRow R cs):=
 ⟨hb.os,hb.tape,hb.output,by simpa [World.setRow] using hb.size,fun k hk=>(setR_other (by omega) cs).trans (hb.block k hk)⟩
theorem Row20.put {W:World} {R:Nat} {a0 a1 a2 a3 a4 a5 a6 a7 a8 a9 a10 a11 a12 a13 a14 a15 a16 a17 a18 a19:Value} (h:Row20 W R a0 a1 a2 a3 a4 a5 a6 a7 a8 a9 a10 a11 a12 a13 a14 a15 a16 a17 a18 a19) (v0 v1 v2 v3 v4 v5 v6 v7 v8 v9 v10 v11 v12 v13 v14 v15 v16 v17 v18 v19:Value):Row20 (W.setRow R #[v0,v1,v2,v3,v4,v5,v6,v7,v8,v9,v10,v11,v12,v13,v14,v15,v16,v17,v18,v19]) R v0 v1 v2 v3 v4 v5 v6 v7 v8 v9 v10 v11 v12 v13 v14 v15 v16 v17 v18 v19:=setR_same h
theorem Row20.load {W:World} {R:Nat} {v0 v1 v2 v3 v4 v5 v6 v7 v8 v9 v10 v11 v12 v13 v14 v15 v16 v17 v18 v19:Value} (h:Row20 W R v0 v1 v2 v3 v4 v5 v6 v7 v8 v9 v10 v11 v12 v13 v14 v15 v16 v17 v18 v19):(loadVar 117 ⟨R,0,none⟩).run Tryz.prog W=.ok (.agg #[v0,v1,v2,v3,v4,v5,v6,v7,v8,v9,v10,v11,v12,v13,v14,v15,v16,v17,v18,v19]) W:=
 run_loadVar_mid W R 0 117 [v0,v1,v2,v3,v4,v5,v6,v7,v8,v9,v10,v11,v12,v13,v14,v15,v16,v17,v18,v19] _ (fun j u hu=>by
  unfold Row20 at h
  rw[Nat.zero_add]
  simp only[World.cell?,h]
  simpa using hu) Tryz.underlying117 rfl (by kernel_rfl)
theorem res_cell {fn:Func} {t:Tmp} {T:TypeId} {tmps:Array Value} {p:Addr} {v:Value} {W:World} (hf:fn.results = #[.cell t T]) (ht:(tmps[t]?).getD undef=.pointer (some p)) (hl:(loadVar T p).run Tryz.prog W=.ok v W):(results fn tmps).run Tryz.prog W=.ok v W:=by
 have h1:(asAddr (.pointer (some p))).run Tryz.prog W=.ok p W:=by simp[asAddr]
 simp only[results,hf]
 simp[ht,h1,hl]
theorem res20 {α:Type} {w W:World} {rb R:Nat} {r:List Tok} {en:Nat × Nat} {nest:Nat} {v:Value} {okv:(Nat→Prop)→α→Value→World→Prop} {P P':Nat→Prop} {x:α} {a0 a1 a2 a3 a4 a5 a6 a7 a8 a9 a10 a11 a12 a13 a14 a15 a16 a17 a18 a19 z0 z1 z2 z3 z4 z5 z6 z7 z8 z9 z10 z11 z12 z13 z14 z15 z16 z17 z18 z19:Value} {G:PR α} (hG:G=.ok x r) (hok:OkvF okv) (hR:w.heap.size≤R) (hrb:rb < w.heap.size) (ht:T1 rb w W) (hz:Row20 W R z0 z1 z2 z3 z4 z5 z6 z7 z8 z9 z10 z11 z12 z13 z14 z15 z16 z17 z18 z19) (hx:okv P x (.agg #[a0,a1,a2,a3,a4,a5,a6,a7,a8,a9,a10,a11,a12,a13,a14,a15,a16,a17,a18,a19]) W) (hP:∀k,P k→P' k) (hn:∀k,P k→k≠R) (hr:RdB W rb r en nest v) :
  Row20 (W.setRow R #[a0,a1,a2,a3,a4,a5,a6,a7,a8,a9,a10,a11,a12,a13,a14,a15,a16,a17,a18,a19]) R a0 a1 a2 a3 a4 a5 a6 a7 a8 a9 a10 a11 a12 a13 a14 a15 a16 a17 a18 a19∧PrP w rb en nest G (okv P') (.returned (.agg #[a0,a1,a2,a3,a4,a5,a6,a7,a8,a9,a10,a11,a12,a13,a14,a15,a16,a17,a18,a19])) (W.setRow R #[a0,a1,a2,a3,a4,a5,a6,a7,a8,a9,a10,a11,a12,a13,a14,a15,a16,a17,a18,a19]):=by
 subst hG
 have hp:Below w.heap.size W (W.setRow R #[a0,a1,a2,a3,a4,a5,a6,a7,a8,a9,a10,a11,a12,a13,a14,a15,a16,a17,a18,a19]):=setR_below (Below.refl _ _) hR _
 refine⟨hz.put _ _ _ _ _ _ _ _ _ _ _ _ _ _ _ _ _ _ _ _,_,_,rfl,?_,hr.low hp hrb,ht.low hp⟩
 exact hok _ _ _ _ _ _ hx hP (fun k hk _=>setR_other (hn k hk) _)
abbrev z20 (W:World) (R:Nat):Prop:=Row20 W R (Zi 0) (Ze) (Zi 0) (Zi 0) (Zi 0) (Ze) (Zn) (Zi 0) (Zi 0) (Zi 0) (Zi 0) (Zi 0) (Ze) (Zn) (Zi 0) (Zi 0) (Zn) (Zn) (Zi 0) (Zi 0)
theorem okE_zero (P:Nat→Prop) (W:World):okE P ex0 (.agg #[Zi 0,Zi 0,Zi 0,Ze,Zn,Zi 0,Zi 0]) W:=⟨_,rfl,.none⟩
theorem okSt_new {P:Nat→Prop} {W:World} {x y:Ex} {body els:List St} {p:Nat × Nat} {x0 x1 x2 x3 x4 x5 x6 y0 y1 y2 y3 y4 y5 y6 B E:Value} (k:Nat) (nm:List UInt8) (h1:okE P x (.agg #[x0,x1,x2,x3,x4,x5,x6]) W) (h2:okE P y (.agg #[y0,y1,y2,y3,y4,y5,y6]) W) (h3:RwS P W body B) (h4:RwS P W els E):okSt P (.mk k nm x y body els p) (.agg #[Zi (k:Int),.string (S nm),x0,x1,x2,x3,x4,x5,x6,y0,y1,y2,y3,y4,y5,y6,B,E,Zi (p.1:Int),Zi (p.2:Int)]) W:=
 ⟨_,rfl,.cons k nm x y body els p _ _ _ _ _ _ _ _ _ _ _ _ _ _ _ _ [] [] h1 h2 h3 h4 .nil⟩
def pArgs (en:Nat × Nat) (r1:List Tok):PR (List NmP):=if nxtT r1=[41] then .ok [] r1 else pNames en r1
theorem args_any (w:World) (rb:Nat) (ts:List Tok) (en:Nat × Nat) (nest:Nat) (v:Value) (hr:RdB w rb ts en nest v) (hj:JoVar w) (hjn:5≠rb) (hl:ts.length≤70000) :
  Calls Tryz.prog 84 #[Zp rb] w (PrP w rb en nest (pArgs en ts) (okNs (New noB w.heap.size))):=by
 have HC:=comes_any w rb ts en nest v [41] hr
 obtain⟨G,hG⟩:=nm (pArgs en ts)
 rw[← hG]
 unfold pArgs at hG
 by_cases hq:nxtT ts=[41]
 ·rw[if_pos hq] at hG
  rw[decide_eq_true hq] at HC
  have HC:Hid (Calls Tryz.prog 78 #[Zp rb,.string ⟨#[41]⟩] w fun e w'=>e=.returned (.bool true)∧Below w.heap.size w w'):=Zh HC
  have HG:=Zh hG
  have HR:=Zh hr
  clear hq hG hj hjn hr hl
  go_enter Tryz.func84,Tryz.ntmps84
  go_wp2_with fail
  refine HC.out.mono ?_
  rintro e w1 ⟨rfl,hb⟩
  have HF:Hid (PrP w rb en nest G (okNs (New noB w.heap.size)) (.returned (Zn)) w1):=Zh (by
   rw[HG.out]
   exact⟨_,v,rfl,⟨⟨rfl,.inl ⟨rfl,rfl⟩⟩,fun g hg=>by cases hg⟩,HR.out.kept hb,T1.bel hb⟩)
  clear HC HG HR hb
  go_wp2_with fail
  exact bodyPost_ret (v:=Zn) (by simp[results,Tryz.results84,go_sem]) rfl HF.out
 ·rw[if_neg hq] at hG
  rw[decide_eq_false hq] at HC
  have HC:Hid (Calls Tryz.prog 78 #[Zp rb,.string ⟨#[41]⟩] w fun e w'=>e=.returned (.bool false)∧Below w.heap.size w w'):=Zh HC
  have HN:=Zh (fun U (hU:Below w.heap.size w U)=>names_any U rb ts en nest v (hr.kept hU) (hj.kept hU) hjn hl)
  rw[← hG] at HN
  clear hq hG hj hjn hr hl
  go_enter Tryz.func84,Tryz.ntmps84
  go_wp2_with fail
  refine HC.out.mono ?_
  rintro e w1 ⟨rfl,hb⟩
  have HB:=Zh hb
  have HN1:=Zh (HN.out w1 hb)
  clear HC HN hb
  go_wp2_with fail
  refine HN1.out.mono ?_
  clear HN1
  cases G with
  | er p x=>
   rintro e w2 ⟨rfl,ht⟩
   exact⟨rfl,er_fin rfl ((T1.bel HB.out).trans ht)⟩
  | ok l r=>
   rintro e w2 ⟨nv,v2,rfl,hx,hr2,ht⟩
   obtain⟨ao,q,qc,rfl⟩:=okNs_s _ _ _ _ hx
   have HF:Hid (PrP w rb en nest (PR.ok l r) (okNs (New noB w.heap.size)) (.returned (.slice ao q qc)) w2):=Zh ⟨_,v2,rfl,okNs_f _ _ _ _ _ _ hx (fun k hk=>hk.imp id (fun h=>by have:=HB.out.size;omega)) (fun _ _ _=>rfl),hr2,(T1.bel HB.out).trans ht⟩
   clear hx hr2 ht HB
   go_wp2_with fail
   exact bodyPost_ret (v:=.slice ao q qc) (by simp[results,Tryz.results84,go_sem]) rfl HF.out
theorem assignment_any (w:World) (rb:Nat) (ts:List Tok) (en:Nat × Nat) (nest:Nat) (v:Value) (kind:Nat) (hr:RdB w rb ts en nest v) (hn:nest≤200) (hj:JoVar w) (hjn:5≠rb) :
  Calls Tryz.prog 146 #[Zp rb,Zi (kind:Int)] w (PrP w rb en nest (pAs en nest kind (0,0) ts) (okSt (New noB w.heap.size))):=by
 obtain⟨W1,hW1⟩:∃z,z=w.alloc (.cells #[Zi 0,Ze,Zi 0,Zi 0,Zi 0,Ze,Zn,Zi 0,Zi 0,Zi 0,Zi 0,Zi 0,Ze,Zn,Zi 0,Zi 0,Zn,Zn,Zi 0,Zi 0] 117):=⟨_,rfl⟩
 have hb1:Below w.heap.size w W1:=by rw[hW1];exact bel_al _ _
 have hq1:=(QS.start hr hj hjn).bel hb1
 have hz1:z20 W1 w.heap.size:=by rw[hW1];exact heap_alloc_new _ _ rfl
 obtain⟨G,hG⟩:∃z,z=pAs en nest kind (0,0) ts:=⟨_,rfl⟩
 rw[← hG]
 unfold pAs at hG
 have HN:=Zh (name_any W1 rb ts en nest v hq1.rd)
 generalize pName en ts=M at *
 have HG:=Zh hG
 have HQ:=Zh hq1
 have HZ:=Zh hz1
 have HWs:Hid (w.heap.size < W1.heap.size):=blk_lt hz1
 clear hr hj hjn hb1 hq1 hz1 hG
 go_enter Tryz.func146,Tryz.ntmps146
 go_upto_region 1 with fail
 rw[← hW1]
 clear hW1
 go_wp2_with fail
 refine HN.out.mono ?_
 clear HN
 cases M with
 | er p x=>
  rintro e w2 ⟨rfl,ht⟩
  exact⟨rfl,er_fin HG.out (HQ.out.t1.trans ht)⟩
 | ok nm r=>
  rintro e w2 ⟨nv,v2,rfl,rfl,hr2,ht⟩
  obtain⟨nt,nl,nc⟩:=nm
  obtain⟨u,hu⟩:∃z,z=S nt:=⟨_,rfl⟩
  simp only[← hu]
  have HU:=Zh hu
  obtain⟨w3,hw3⟩:∃z,z=w2.alloc (.cells #[.string u,Zi (nl:Int),Zi (nc:Int)] 89):=⟨_,rfl⟩
  obtain⟨B,hB⟩:∃z,z=w2.heap.size:=⟨_,rfl⟩
  have hb3:Below w2.heap.size w2 w3:=by rw[hw3];exact bel_al _ _
  have hn3:Row3 w3 B (.string u) (Zi (nl:Int)) (Zi (nc:Int)):=by rw[hw3,hB];exact heap_alloc_new _ _ rfl
  have HQ3:=Zh ((HQ.out.call ht hr2).bel hb3)
  have HZ3:=Zh ((HZ.out.t1 ht (by have:=HQ.out.lt;omega)).kept hb3)
  have HN3:=Zh hn3
  have HBw:Hid (w.heap.size < B∧rb < w.heap.size):=Zh ⟨by rw[hB];have:=ht.size;have:=HWs.out;omega,HQ.out.lt⟩
  have HM:=must_any w3 rb r en nest v2 [61] (by decide) HQ3.out.rd
  have hg:=HG.out
  rw[PR.bind_ok] at hg
  generalize pMust en [61] r=M2 at *
  have HM:Hid (Calls Tryz.prog 46 #[Zp rb,.string ⟨#[61]⟩] w3 (PrP w3 rb en nest M2 fun _ v _=>v=.tuple #[])):=Zh HM
  have HG2:=Zh hg
  clear hr2 ht hb3 hn3 HQ HZ HG hg HWs hu
  go_upto_region 2 with fail
  rw[← hw3,← hB]
  clear hw3 hB
  go_wp2_with fail
  refine HM.out.mono ?_
  clear HM
  cases M2 with
  | er p x=>
   rintro e w4 ⟨rfl,ht⟩
   exact⟨rfl,er_fin HG2.out (HQ3.out.t1.trans ht)⟩
  | ok _ r2=>
   rintro e w4 ⟨_,v4,rfl,rfl,hr4,ht⟩
   have hbw:=HBw.out
   have hq4:=HQ3.out.call ht hr4
   have hn4:=HN3.out.t1 ht (by omega)
   have hbd:Below w4.heap.size w4 w4.drew:=(Grew.refl w4).drew.below
   have HQ5:=Zh (hq4.bel hbd)
   have HZ5:=Zh ((HZ3.out.t1 ht (by omega)).kept hbd)
   have HN5:=Zh (hn4.kept hbd)
   have HE:=Zh (HQ5.out.expr hn)
   have hg:=HG2.out
   rw[PR.bind_ok] at hg
   generalize pW en nest r2=R at *
   have HG3:=Zh hg
   obtain⟨⟨c0,_⟩,_⟩:=hn4.cells
   have HSz:=Zh hbd.size
   clear hr4 ht hq4 hn4 hbd HQ3 HZ3 HN3 hg HG2 hbw
   go_upto_region 3 with fail
   refine wp_region_held_drew (S:=fun w9=>w9.cell? ⟨B,0,none⟩=some (.string u)) (by kernel_rfl) ?_ (fun hHeld=>?_)
   ·exact c0
   refine wpAnyH_take (i:=0) (v:=Zi (kind:Int)) rfl (by kernel_rfl) (by kernel_rfl) (by kernel_rfl) (fun _ _ _ h=>h) (Or.inl ⟨by rfl,by intro w hSw;(try dsimp only at hSw);go_simp⟩) (by assumption) ?_
   refine wpAnyH_take (i:=1) (v:=Zp B) rfl (by kernel_rfl) (by kernel_rfl) (by kernel_rfl) (fun _ _ _ h=>h) (Or.inl ⟨by rfl,by intro w hSw;(try dsimp only at hSw);go_simp⟩) (by assumption) ?_
   refine wpAnyH_take (i:=2) (v:=.string u) rfl (by kernel_rfl) (by kernel_rfl) (by kernel_rfl) (fun _ _ _ h=>h) (Or.inl ⟨by rfl,by intro w hSw;(try dsimp only at hSw);go_simp⟩) (by assumption) ?_
   refine wpAnyH_take (i:=3) (v:=Zp rb) rfl (by kernel_rfl) (by kernel_rfl) (by kernel_rfl) (fun _ _ _ h=>h) (Or.inl ⟨by rfl,by intro w hSw;(try dsimp only at hSw);go_simp⟩) (by assumption) ?_
   refine wpAnyH_ready (rs:=[4]) (by kernel_rfl) (by simp) ?_
   refine AllReadyH.cons rfl (fun K hK=>?_) AllReadyH.nil
   go_simp
   refine HE.out.mono ?_
   clear HE c0
   cases R with
   | er p x=>
    rintro e w6 ⟨rfl,ht⟩
    exact⟨rfl,er_fin HG3.out (HQ5.out.t1.trans ht)⟩
   | ok x r3=>
    rintro e w6 ⟨xv,v6,rfl,hx,hr6,ht⟩
    obtain⟨k,o,n,l,c,s,ao,q,qc,rfl⟩:=okE_7 _ _ _ _ hx
    have hbw:=HBw.out
    have hq6:=HQ5.out.call ht hr6
    have hz6:=HZ5.out.t1 ht (by omega)
    have hn6:=HN5.out.t1 ht (by omega)
    have hzs:=blk_lt HZ5.out
    have hst:okSt (New noB w4.drew.heap.size) (.mk kind nt x ex0 [] [] (0,0)) (.agg #[Zi (kind:Int),.string u,Zi k,Zi o,Zi n,.string s,.slice ao q qc,Zi l,Zi c,Zi 0,Zi 0,Zi 0,Ze,Zn,Zi 0,Zi 0,Zn,Zn,Zi 0,Zi 0]) w6:=by
     rw[HU.out]
     exact okSt_new (p:=(0,0)) kind nt hx (okE_zero _ w6) (RwS.nil _ _) (RwS.nil _ _)
    have HF:=Zh (res20 HG3.out okSt_f (Nat.le_refl _) hbw.2 hq6.t1 hz6 hst (P':=New noB w.heap.size) (fun k hk=>hk.imp id (fun h=>by omega)) (fun k hk=>by
     rcases hk with hk | hk
     ·exact hk.elim
     ·omega) hr6)
    have hn7:Row3 (w6.setRow w.heap.size #[Zi (kind:Int),.string u,Zi k,Zi o,Zi n,.string s,.slice ao q qc,Zi l,Zi c,Zi 0,Zi 0,Zi 0,Ze,Zn,Zi 0,Zi 0,Zn,Zn,Zi 0,Zi 0]) B (.string u) (Zi (nl:Int)) (Zi (nc:Int)):=(setR_other (by omega) _).trans hn6
    obtain⟨⟨c0,_⟩,_⟩:=hn6.cells
    obtain⟨⟨c1,_⟩,_⟩:=hn7.cells
    clear hx hr6 ht hbw hq6 hn6 hn7 hzs hst HG3 HQ5 HZ5 HN5 HBw HU HSz
    go_wp2_with fail
    refine hK.out _ _ (by exact c0) (fun hHeld=>?_)
    clear hK K
    refine wpAnyH_take (i:=5) (v:=.agg #[Zi (kind:Int),.string u,Zi k,Zi o,Zi n,.string s,.slice ao q qc,Zi l,Zi c,Zi 0,Zi 0,Zi 0,Ze,Zn,Zi 0,Zi 0,Zn,Zn,Zi 0,Zi 0]) rfl (by kernel_rfl) (by kernel_rfl) (by kernel_rfl) (fun _ _ _ h=>h) (Or.inl ⟨by rfl,by intro w hSw;(try dsimp only at hSw);go_simp⟩) (by assumption) ?_
    refine wpAnyH_ready (rs:=[6]) (by kernel_rfl) (by simp) ?_
    refine AllReadyH.cons rfl (fun K hK=>?_) AllReadyH.nil
    rw[if_pos (by kernel_rfl)]
    refine wp_store_row 117 (.tmp 4) (.tmp 15) rfl w.heap.size #[Zi (kind:Int),.string u,Zi k,Zi o,Zi n,.string s,.slice ao q qc,Zi l,Zi c,Zi 0,Zi 0,Zi 0,Ze,Zn,Zi 0,Zi 0,Zn,Zn,Zi 0,Zi 0] rfl rfl 117 _ hz6 (by kernel_rfl) rfl (by kernel_rfl) ?_
    refine hK.out _ _ (by exact c1) (fun hHeld=>?_)
    clear hK K hHeld
    refine wpAnyH_done (by kernel_rfl) ?_ _
    clear c0 c1 hz6
    go_wp2_with fail
    obtain⟨h1,h2⟩:=HF.out
    clear HF
    generalize w6.setRow w.heap.size #[Zi (kind:Int),.string u,Zi k,Zi o,Zi n,.string s,.slice ao q qc,Zi l,Zi c,Zi 0,Zi 0,Zi 0,Ze,Zn,Zi 0,Zi 0,Zn,Zn,Zi 0,Zi 0]=W7 at h1 h2 ⊢
    have hld:=h1.load
    exact bodyPost_ret (v:=.agg #[Zi (kind:Int),.string u,Zi k,Zi o,Zi n,.string s,.slice ao q qc,Zi l,Zi c,Zi 0,Zi 0,Zi 0,Ze,Zn,Zi 0,Zi 0,Zn,Zn,Zi 0,Zi 0]) (res_cell Tryz.results146 rfl hld) rfl h2
def pPut (en:Nat × Nat) (nest:Nat) (ts:List Tok):PR St:=
 if nxtT ts=[91] then (pBr en nest [91] [93] ts fun ns r=>pW en ns r).bind fun x r=>(pMust en [61] r).bind fun _ r2=>(pW en nest r2).bind fun y r3=>.ok (.mk 4 [] x y [] [] (0,0)) r3
 else pAs en nest 3 (0,0) ts
theorem put_any (w:World) (rb:Nat) (ts:List Tok) (en:Nat × Nat) (nest:Nat) (v:Value) (hr:RdB w rb ts en nest v) (hn:nest≤200) (hj:JoVar w) (hjn:5≠rb) :
  Calls Tryz.prog 147 #[Zp rb] w (PrP w rb en nest (pPut en nest ts) (okSt (New noB w.heap.size))):=by
 obtain⟨W1,hW1⟩:=nm (w.alloc (.cells #[Zi 0,Ze,Zi 0,Zi 0,Zi 0,Ze,Zn,Zi 0,Zi 0,Zi 0,Zi 0,Zi 0,Ze,Zn,Zi 0,Zi 0,Zn,Zn,Zi 0,Zi 0] 117))
 have hb1:Below w.heap.size w W1:=by rw[hW1];exact bel_al _ _
 have hq1:=(QS.start hr hj hjn).bel hb1
 have hz1:z20 W1 w.heap.size:=by rw[hW1];exact heap_alloc_new _ _ rfl
 have HC:=comes_any W1 rb ts en nest v [91] hq1.rd
 obtain⟨G,hG⟩:=nm (pPut en nest ts)
 rw[← hG]
 unfold pPut at hG
 have HWs:Hid (w.heap.size < W1.heap.size):=blk_lt hz1
 by_cases hq:nxtT ts=[91]
 ·rw[if_pos hq] at hG
  rw[decide_eq_true hq] at HC
  have HC:Hid (Calls Tryz.prog 78 #[Zp rb,.string ⟨#[91]⟩] W1 fun e w'=>e=.returned (.bool true)∧Below W1.heap.size W1 w'):=Zh HC
  have HB:Hid (∀U,QS w U rb ts en nest v→Calls Tryz.prog 151 #[Zp rb,.string ⟨#[91]⟩,.string ⟨#[93]⟩,.func (.func 81) #[Zp rb] #[]] U (PrP U rb en nest (pBr en nest [91] [93] ts fun ns r=>pW en ns r) (okE (New noB U.heap.size)))):=Zh fun U hU=>
   bracketedE_any U rb ts en nest v hU.rd [91] [93] (by decide) (by decide) hn 81 (enters_of Tryz.func81 (by kernel_rfl) rfl) #[Zp rb] #[] (fun ns r=>pW en ns r) okE noB (fun k hk=>hk.elim) okE_f okE_7
    (fun hq hn2 V v2 hV hrV=>expression_any V rb ts.tail en (nest+1) v2 hrV (by omega) (hU.jo.t1 hV hU.jn) hU.jn)
  generalize (pBr en nest [91] [93] ts fun ns r=>pW en ns r)=R at *
  have HG:=Zh hG
  have HQ:=Zh hq1
  have HZ:=Zh hz1
  clear hr hj hjn hb1 hq1 hz1 hG hq
  go_enter Tryz.func147,Tryz.ntmps147
  go_upto_region 1 with fail
  rw[← hW1]
  clear hW1
  go_wp2_with fail
  refine HC.out.mono ?_
  clear HC
  rintro e w2 ⟨rfl,hb⟩
  have HQ2:=Zh (HQ.out.bel hb)
  have HZ2:=Zh (HZ.out.kept hb)
  have HB2:=Zh (HB.out w2 HQ2.out)
  have HW2:=Zh hb.size
  clear HQ HZ HB hb
  go_wp2_with fail
  refine HB2.out.mono ?_
  clear HB2
  cases R with
  | er p x=>
   rintro e w3 ⟨rfl,ht⟩
   exact⟨rfl,er_fin HG.out (HQ2.out.t1.trans ht)⟩
  | ok x r2=>
   rintro e w3 ⟨xv,v3,rfl,hx,hr3,ht⟩
   obtain⟨xk,xo,xn,xl,xc,xs,xa,xq,xqc,rfl⟩:=okE_7 _ _ _ _ hx
   have hlt:=HQ2.out.lt
   obtain⟨w4,hw4⟩:=nm (w3.alloc (.cells #[Zi xk,Zi xo,Zi xn,.string xs,.slice xa xq xqc,Zi xl,Zi xc] 66))
   obtain⟨B,hB⟩:=nm (w3.heap.size)
   have hb4:Below w3.heap.size w3 w4:=by rw[hw4];exact bel_al _ _
   have HB4:Hid (Row7 w4 B (Zi xk) (Zi xo) (Zi xn) (.string xs) (.slice xa xq xqc) (Zi xl) (Zi xc)):=Zh (by rw[hw4,hB];exact Row7.al _ _ _ _ _ _ _ _)
   have HQ4:=Zh ((HQ2.out.call ht hr3).bel hb4)
   have HZ4:=Zh ((HZ2.out.t1 ht (by omega)).kept hb4)
   have HX4:=Zh (okE_mono (P':=fun k=>w.heap.size < k) (okE_bel hx hb4) (fun k hk _=>by
    have h1:=HWs.out;have h2:=HW2.out
    rcases hk with hk | hk
    ·exact hk.elim
    ·omega))
   have HBw:Hid (w.heap.size < B∧rb < w.heap.size):=Zh ⟨by rw[hB];have:=ht.size;have:=HWs.out;have:=HW2.out;omega,hlt⟩
   have HM:=must_any w4 rb r2 en nest v3 [61] (by decide) HQ4.out.rd
   have hg:=HG.out
   rw[PR.bind_ok] at hg
   generalize pMust en [61] r2=M at *
   have HM:Hid (Calls Tryz.prog 46 #[Zp rb,.string ⟨#[61]⟩] w4 (PrP w4 rb en nest M fun _ v _=>v=.tuple #[])):=Zh HM
   have HG2:=Zh hg
   clear hx hr3 ht hlt hb4 HQ2 HZ2 HG hg HW2
   go_upto_region 4 with fail
   rw[← hw4,← hB]
   clear hw4 hB
   go_wp2_with fail
   refine HM.out.mono ?_
   clear HM
   cases M with
   | er p x=>
    rintro e w5 ⟨rfl,ht⟩
    exact⟨rfl,er_fin HG2.out (HQ4.out.t1.trans ht)⟩
   | ok _ r3=>
    rintro e w5 ⟨_,v5,rfl,rfl,hr5,ht⟩
    have hbw:=HBw.out
    have hq5:=HQ4.out.call ht hr5
    have hb5:=HB4.out.t1 ht (by omega)
    have hz5:=HZ4.out.t1 ht (by omega)
    have hx5:=okE_t1 HX4.out ht (fun k hk=>by omega)
    have hbd:Below w5.heap.size w5 w5.drew:=(Grew.refl w5).drew.below
    have HQ5:=Zh (hq5.bel hbd)
    have HZ5:=Zh (hz5.kept hbd)
    have HB5:=Zh (hb5.kept hbd)
    have HX5:=Zh (okE_bel hx5 hbd)
    have HE:=Zh (HQ5.out.expr hn)
    have hg:=HG2.out
    rw[PR.bind_ok] at hg
    generalize pW en nest r3=R at *
    have HG3:=Zh hg
    obtain⟨⟨x0,x1,x2,x3,x4,x5,x6⟩,_⟩:=hb5.cells
    have HSz:=Zh (blk_lt hz5)
    clear hr5 ht hq5 hb5 hz5 hx5 HQ4 HZ4 HB4 HX4 hg HG2 hbw
    go_upto_region 5 with fail
    refine wp_region_held_drew (S:=fun w9=>w9.cell? ⟨B,0,none⟩=some (Zi xk)∧w9.cell? ⟨B,1,none⟩=some (Zi xo)∧w9.cell? ⟨B,2,none⟩=some (Zi xn)∧w9.cell? ⟨B,3,none⟩=some (.string xs)∧w9.cell? ⟨B,4,none⟩=some (.slice xa xq xqc)∧w9.cell? ⟨B,5,none⟩=some (Zi xl)∧w9.cell? ⟨B,6,none⟩=some (Zi xc)) (by kernel_rfl) ?_ (fun hHeld=>?_)
    ·exact⟨x0,x1,x2,x3,x4,x5,x6⟩
    refine wpAnyH_take (i:=0) (v:=.agg #[Zi xk,Zi xo,Zi xn,.string xs,.slice xa xq xqc,Zi xl,Zi xc]) rfl (by kernel_rfl) (by kernel_rfl) (by kernel_rfl) (fun _ _ _ h=>h) (Or.inl ⟨by rfl,by intro w hSw;(try dsimp only at hSw);go_simp⟩) (by assumption) ?_
    refine wpAnyH_take (i:=1) (v:=Zp rb) rfl (by kernel_rfl) (by kernel_rfl) (by kernel_rfl) (fun _ _ _ h=>h) (Or.inl ⟨by rfl,by intro w hSw;(try dsimp only at hSw);go_simp⟩) (by assumption) ?_
    refine wpAnyH_ready (rs:=[2]) (by kernel_rfl) (by simp) ?_
    refine AllReadyH.cons rfl (fun K hK=>?_) AllReadyH.nil
    go_simp
    refine HE.out.mono ?_
    clear HE x0 x1 x2 x3 x4 x5 x6
    cases R with
    | er p x=>
     rintro e w6 ⟨rfl,ht⟩
     exact⟨rfl,er_fin HG3.out (HQ5.out.t1.trans ht)⟩
    | ok y r4=>
     rintro e w6 ⟨yv,v6,rfl,hy,hr6,ht⟩
     obtain⟨yk,yo,yn,yl,yc,ys,ya,yq,yqc,rfl⟩:=okE_7 _ _ _ _ hy
     have hbw:=HBw.out
     have hq6:=HQ5.out.call ht hr6
     have hz6:=HZ5.out.t1 ht (by omega)
     have hb6:=HB5.out.t1 ht (by omega)
     have hx6:=okE_t1 HX5.out ht (fun k hk=>by omega)
     have hy6:=okE_mono (P':=fun k=>w.heap.size < k) hy (fun k hk _=>by
      have h1:=HSz.out;have h2:=hbd.size
      rcases hk with hk | hk
      ·exact hk.elim
      ·omega)
     have hst:okSt (fun k=>w.heap.size < k) (.mk 4 [] x y [] [] (0,0)) (.agg #[Zi 4,Ze,Zi xk,Zi xo,Zi xn,.string xs,.slice xa xq xqc,Zi xl,Zi xc,Zi yk,Zi yo,Zi yn,.string ys,.slice ya yq yqc,Zi yl,Zi yc,Zn,Zn,Zi 0,Zi 0]) w6:=okSt_new (p:=(0,0)) 4 [] hx6 hy6 (RwS.nil _ _) (RwS.nil _ _)
     have HF:=Zh (res20 HG3.out okSt_f (Nat.le_refl _) hbw.2 hq6.t1 hz6 hst (P':=New noB w.heap.size) (fun k hk=>.inr (Nat.le_of_lt hk)) (fun k hk=>by omega) hr6)
     have hb7:Row7 (w6.setRow w.heap.size #[Zi 4,Ze,Zi xk,Zi xo,Zi xn,.string xs,.slice xa xq xqc,Zi xl,Zi xc,Zi yk,Zi yo,Zi yn,.string ys,.slice ya yq yqc,Zi yl,Zi yc,Zn,Zn,Zi 0,Zi 0]) B (Zi xk) (Zi xo) (Zi xn) (.string xs) (.slice xa xq xqc) (Zi xl) (Zi xc):=(setR_other (by omega) _).trans hb6
     obtain⟨⟨c0,c1,c2,c3,c4,c5,c6⟩,_⟩:=hb6.cells
     obtain⟨⟨e0,e1,e2,e3,e4,e5,e6⟩,_⟩:=hb7.cells
     clear hy hr6 ht hbw hq6 hb6 hx6 hy6 hst hb7 HG3 HQ5 HZ5 HB5 HX5 HBw HSz HWs hbd
     go_wp2_with fail
     refine hK.out _ _ (by exact⟨c0,c1,c2,c3,c4,c5,c6⟩) (fun hHeld=>?_)
     clear hK K
     refine wpAnyH_take (i:=3) (v:=.agg #[Zi 4,Ze,Zi xk,Zi xo,Zi xn,.string xs,.slice xa xq xqc,Zi xl,Zi xc,Zi yk,Zi yo,Zi yn,.string ys,.slice ya yq yqc,Zi yl,Zi yc,Zn,Zn,Zi 0,Zi 0]) rfl (by kernel_rfl) (by kernel_rfl) (by kernel_rfl) (fun _ _ _ h=>h) (Or.inl ⟨by rfl,by intro w hSw;(try dsimp only at hSw);go_simp⟩) (by assumption) ?_
     refine wpAnyH_ready (rs:=[4]) (by kernel_rfl) (by simp) ?_
     refine AllReadyH.cons rfl (fun K hK=>?_) AllReadyH.nil
     rw[if_pos (by kernel_rfl)]
     refine wp_store_row 117 (.tmp 2) (.tmp 18) rfl w.heap.size #[Zi 4,Ze,Zi xk,Zi xo,Zi xn,.string xs,.slice xa xq xqc,Zi xl,Zi xc,Zi yk,Zi yo,Zi yn,.string ys,.slice ya yq yqc,Zi yl,Zi yc,Zn,Zn,Zi 0,Zi 0] rfl rfl 117 _ hz6 (by kernel_rfl) rfl (by kernel_rfl) ?_
     refine hK.out _ _ (by exact⟨e0,e1,e2,e3,e4,e5,e6⟩) (fun hHeld=>?_)
     clear hK K hHeld
     refine wpAnyH_done (by kernel_rfl) ?_ _
     clear c0 c1 c2 c3 c4 c5 c6 e0 e1 e2 e3 e4 e5 e6 hz6
     go_wp2_with fail
     obtain⟨h1,h2⟩:=HF.out
     clear HF
     generalize w6.setRow w.heap.size #[Zi 4,Ze,Zi xk,Zi xo,Zi xn,.string xs,.slice xa xq xqc,Zi xl,Zi xc,Zi yk,Zi yo,Zi yn,.string ys,.slice ya yq yqc,Zi yl,Zi yc,Zn,Zn,Zi 0,Zi 0]=W7 at h1 h2 ⊢
     exact bodyPost_ret (v:=.agg #[Zi 4,Ze,Zi xk,Zi xo,Zi xn,.string xs,.slice xa xq xqc,Zi xl,Zi xc,Zi yk,Zi yo,Zi yn,.string ys,.slice ya yq yqc,Zi yl,Zi yc,Zn,Zn,Zi 0,Zi 0]) (res_cell Tryz.results147 rfl h1.load) rfl h2
 ·rw[if_neg hq] at hG
  rw[decide_eq_false hq] at HC
  have HC:Hid (Calls Tryz.prog 78 #[Zp rb,.string ⟨#[91]⟩] W1 fun e w'=>e=.returned (.bool false)∧Below W1.heap.size W1 w'):=Zh HC
  have HB:=Zh (fun U (hU:QS w U rb ts en nest v)=>assignment_any U rb ts en nest v 3 hU.rd hn hU.jo hU.jn)
  rw[← hG] at HB
  have HB:Hid (∀U,QS w U rb ts en nest v→Calls Tryz.prog 146 #[Zp rb,Zi 3] U (PrP U rb en nest G (okSt (New noB U.heap.size)))):=HB
  have HQ:=Zh hq1
  have HZ:=Zh hz1
  clear hr hj hjn hb1 hq1 hz1 hG hq hn HWs
  go_enter Tryz.func147,Tryz.ntmps147
  go_upto_region 1 with fail
  rw[← hW1]
  clear hW1
  go_wp2_with fail
  refine HC.out.mono ?_
  clear HC
  rintro e w2 ⟨rfl,hb⟩
  have HQ:=Zh (HQ.out.bel hb)
  have HZ:=Zh (HZ.out.kept hb)
  have HB2:=Zh (HB.out w2 HQ.out)
  clear HB hb
  go_wp2_with fail
  refine HB2.out.mono ?_
  clear HB2
  cases G with
  | er p x=>
   rintro e w6 ⟨rfl,ht⟩
   exact⟨rfl,er_fin rfl (HQ.out.t1.trans ht)⟩
  | ok y r3=>
   rintro e w6 ⟨yv,v3,rfl,hy,hr6,ht⟩
   obtain⟨k,xk,xo,xn,xl,xc,yk,yo,yn,yl,yc,l,c,s,xs,ys,xa,ya,ba,ea,xq,xqc,yq,yqc,bq,bqc,eq,eqc,rfl⟩:=okSt_20 _ _ _ _ hy
   have hlt:=HQ.out.lt
   have hq6:=HQ.out.call ht hr6
   have hz6:=HZ.out.t1 ht (by omega)
   have hzs:=blk_lt HZ.out
   have HF:=Zh (res20 rfl okSt_f (Nat.le_refl _) hlt hq6.t1 hz6 hy (P':=New noB w.heap.size) (fun k hk=>hk.imp id (fun h=>by omega)) (fun k hk=>by
    rcases hk with hk | hk
    ·exact hk.elim
    ·omega) hr6)
   clear hy hr6 ht hlt hq6 hzs HQ HZ
   go_wp2_with (refine wpList_store_row rfl 117 _ _ rfl w.heap.size #[Zi k,.string s,Zi xk,Zi xo,Zi xn,.string xs,.slice xa xq xqc,Zi xl,Zi xc,Zi yk,Zi yo,Zi yn,.string ys,.slice ya yq yqc,Zi yl,Zi yc,.slice ba bq bqc,.slice ea eq eqc,Zi l,Zi c] rfl rfl 117 _ hz6 (by kernel_rfl) rfl (by kernel_rfl) ?_)
   obtain⟨h1,h2⟩:=HF.out
   clear HF hz6
   generalize w6.setRow w.heap.size #[Zi k,.string s,Zi xk,Zi xo,Zi xn,.string xs,.slice xa xq xqc,Zi xl,Zi xc,Zi yk,Zi yo,Zi yn,.string ys,.slice ya yq yqc,Zi yl,Zi yc,.slice ba bq bqc,.slice ea eq eqc,Zi l,Zi c]=W7 at h1 h2 ⊢
   exact bodyPost_ret (v:=.agg #[Zi k,.string s,Zi xk,Zi xo,Zi xn,.string xs,.slice xa xq xqc,Zi xl,Zi xc,Zi yk,Zi yo,Zi yn,.string ys,.slice ya yq yqc,Zi yl,Zi yc,.slice ba bq bqc,.slice ea eq eqc,Zi l,Zi c]) (res_cell Tryz.results147 rfl h1.load) rfl h2
end Go.Proofs.YtlfooogmoigpfaaGreatDoor
