import Derived.Test.YtlfooogmoigpfaaGreatDoorQam
import Derived.Test.YtlfooogmoigpfaaGreatDoorQaq
import Derived.Test.YtlfooogmoigpfaaGreatDoorQaa
set_option maxRecDepth 100000
set_option maxHeartbeats 8000000
namespace Go.Proofs.YtlfooogmoigpfaaGreatDoor
open Go.RowKit Go.Sort Go.Shelf
theorem okCo_10 {P:Nat→Prop} {c:CoS} {v:Value} {W:World} (h:okCo P c v W):∃(u xs:ByteArray) (xk xo xn xl xc l c:Int) (xa:Option Addr) (xq xqc:Nat),v=.agg #[.string u,Zi xk,Zi xo,Zi xn,.string xs,.slice xa xq xqc,Zi xl,Zi xc,Zi l,Zi c]:=by
 obtain⟨x0,x1,x2,x3,x4,x5,x6,rfl,h⟩:=h
 obtain⟨xk,xo,xn,xl,xc,xs,xa,xq,xqc,e⟩:=okE_7 _ _ _ _ h
 simp only[Value.agg.injEq,Array.mk.injEq,List.cons.injEq,and_true] at e
 obtain⟨rfl,rfl,rfl,rfl,rfl,rfl,rfl⟩:=e
 exact⟨_,_,_,_,_,_,_,_,_,_,_,_,rfl⟩
theorem okPr_7 {P:Nat→Prop} {p:PrS} {v:Value} {W:World} (h:okPr P p v W):∃(u:ByteArray) (l c:Int) (aa ra wa ba:Option Addr) (aq aqc rq rqc wq wqc bq bqc:Nat),v=.agg #[.string u,.slice aa aq aqc,.slice ra rq rqc,.slice wa wq wqc,.slice ba bq bqc,Zi l,Zi c]:=by
 obtain⟨a,r,w,b,rfl,h1,h2,h3,h4⟩:=h
 obtain⟨aa,aq,aqc,rfl⟩:=okNs_s _ _ _ _ h1
 obtain⟨ra,rq,rqc,rfl⟩:=okNs_s _ _ _ _ h2
 obtain⟨wa,wq,wqc,rfl⟩:=okNs_s _ _ _ _ h3
 obtain⟨ba,bc,rfl⟩:=h4.slice
 exact⟨_,_,_,_,_,_,_,_,_,_,_,_,_,_,_,rfl⟩
theorem fineS_lt {α:Type} {n:Nat} {R:PR α} {x:α} {r:List Tok} (h:FineS n R) (he:R=.ok x r):r.length < n:=by subst he;exact h
theorem source_any (w:World) (rb:Nat) (ts:List Tok) (en:Nat × Nat) (v:Value) (hq:QS w w rb ts en 0 v) (hl:ts.length≤70000) :
  Calls Tryz.prog 17 #[Zp rb] w (PrP w rb en 0 (pSrc en (ts.length+1) ⟨[],[]⟩ ts) (okSrc (New noB w.heap.size))):=by
 obtain⟨wa,hwa⟩:=nm (w.alloc (.cells #[Zn,Zn] 25))
 obtain⟨W1,hW1⟩:=nm (wa.alloc (.cells #[Zn,Zn] 25))
 have sa:wa.heap.size=w.heap.size+1:=by rw[hwa];simp
 have ba:Below w.heap.size w wa:=by rw[hwa];exact bel_al _ _
 have b1:Below wa.heap.size wa W1:=by rw[hW1];exact bel_al _ _
 have hz1:RowS W1 w.heap.size (Zn) (Zn):=by
  have h:RowS wa w.heap.size (Zn) (Zn):=by rw[hwa];exact heap_alloc_new _ _ rfl
  exact h.kept b1
 have hs1:RowS W1 (w.heap.size+1) (Zn) (Zn):=by rw[hW1,← sa];exact heap_alloc_new _ _ rfl
 have hq1:=hq.bel (ba.trans (b1.mono ba.size))
 obtain⟨G,hG⟩:=nm (pSrc en (ts.length+1) ⟨[],[]⟩ ts)
 have HNe:Hid (G≠.er (0,0) 0):=Zh (by rw[hG];exact (pSrc_fine en _ _ ts ts.length (Nat.le_refl _) (by omega)).ne)
 rw[← hG]
 have HL:Hid (∃f acc us v ca cn cc pa pn pc cs ps,SrL w W1 rb en G f acc us v (.slice ca cn cc) (.slice pa pn pc) cs ps):=Zh ⟨_,⟨[],[]⟩,ts,v,none,0,0,none,0,0,[],[],hq1,hz1,hs1,⟨rfl,.inl ⟨rfl,rfl⟩⟩,⟨rfl,.inl ⟨rfl,rfl⟩⟩,(fun g hg=>by cases hg),rfl,rfl,hG,by simp only[List.length_nil];omega⟩
 clear hq hl sa ba b1 hz1 hs1 hq1 hG
 go_enter Tryz.func17,Tryz.ntmps17
 go_upto_region 2 with fail
 rw[← hwa,← hW1]
 clear hwa hW1
 go_loopw[] (fun wr=>Hid (∃f acc us v ca cn cc pa pn pc cs ps,SrL w wr rb en G f acc us v (.slice ca cn cc) (.slice pa pn pc) cs ps)) (fun wr=>measT rb wr)
 case atStart=>exact HL
 case round=>
  clear HL
  obtain⟨f,acc,us,v,ca,cn,cc,pa,pn,pc,cs,ps,hL⟩:=hrel.out
  clear hrel
  have hng:pSrc en f acc us≠.er (0,0) 0:=by rw[← hL.eq];exact HNe.out
  obtain⟨f,rfl⟩:∃f',f=f'+1:=by
   cases f with
   | zero=>exact absurd (by simp only[pSrc]) hng
   | succ f=>exact⟨f,rfl⟩
  have hg:=hL.eq
  simp only[pSrc] at hg
  have HM:Hid (measT rb wr=us.length):=Zh (measT_rd hL.qs.rd)
  obtain⟨ao,c,rfl,_,_⟩:=hL.qs.rd.tok
  obtain⟨⟨c0,_⟩,_⟩:=hL.qs.rd.cells
  cases us with
  | nil=>
   rw[if_pos rfl] at hg
   rw[List.length_nil] at c0
   have hsr:=hL.s
   have hzr:=hL.z
   have HF:Hid (PrP w rb en 0 G (okSrc (New noB w.heap.size)) (.returned (.agg #[.slice ca cn cc,.slice pa pn pc])) (wr.setRow w.heap.size #[.slice ca cn cc,.slice pa pn pc])):=Zh (resR (P:=fun k=>w.heap.size < k) hg okSrc_f (Nat.le_refl _) hL.qs.lt hL.qs.t1 ⟨_,_,cs,ps,rfl,ownsRow_mono hL.co (Nat.zero_le _),ownsRow_mono hL.po (Nat.zero_le _),fun g hg=>by have:=(World.ownsRow.lt hL.co g hg).1;omega,fun g hg=>by have:=(World.ownsRow.lt hL.po g hg).1;omega,hL.cc.kept okCo_f (fun k hk=>by have:=hk.1;omega) (fun _ _ _=>rfl),hL.pp.kept okPr_f (fun k hk=>by have:=hk.1;omega) (fun _ _ _=>rfl)⟩ (fun k hk=>.inr (Nat.le_of_lt hk)) (fun k hk=>by omega) hL.qs.rd)
   have HF2:=Zh (hzr.put (.slice ca cn cc) (.slice pa pn pc))
   obtain⟨x0,x1⟩:=hsr.cells
   clear hL hng hg hsr HM HNe
   go_wp2_with (refine wpList_store_row rfl 25 _ _ rfl w.heap.size #[.slice ca cn cc,.slice pa pn pc] rfl rfl 25 _ hzr (by kernel_rfl) rfl (by kernel_rfl) ?_)
   have h1:=HF2.out
   have h2:=HF.out
   clear HF HF2 hzr x0 x1 c0
   generalize wr.setRow w.heap.size #[.slice ca cn cc,.slice pa pn pc]=W7 at h1 h2 ⊢
   exact bodyPost_ret (v:=.agg #[.slice ca cn cc,.slice pa pn pc]) (res_cell Tryz.results17 rfl h1.load) rfl h2
  | cons t r=>
   rw[if_neg (by simp)] at hg
   obtain⟨m,hm⟩:=nm ((t :: r).length)
   rw[← hm] at c0
   have hm0:(0:Int) < (m:Int):=by rw[hm];simp
   have HM:Hid (measT rb wr=r.length+1):=HM
   have HLr:Hid (r.length≤70000):=Zh (by have:=hL.ln;simp only[List.length_cons] at this;omega)
   have HT:=takes_any wr rb (t :: r) en 0 _ wConst (by decide) hL.qs.rd
   have HNc:Hid (cn=acc.consts.length):=Zh (by obtain⟨_,_,e,_⟩:=own_slice hL.co;exact (Value.slice.inj e).2.1)
   have HNp:Hid (pn=acc.procs.length):=Zh (by obtain⟨_,_,e,_⟩:=own_slice hL.po;exact (Value.slice.inj e).2.1)
   by_cases hc:nxtT (t :: r)=wConst
   ·rw[if_pos hc,List.tail_cons] at hg
    rw[decide_eq_true hc,if_pos hc] at HT
    have HT:Hid (Calls Tryz.prog 44 #[Zp rb,.string ⟨#[99,111,110,115,116]⟩] wr fun e w'=>e=.returned (.bool true)∧T1 rb wr w'∧∃v',RdB w' rb r en 0 v'):=Zh HT
    have HL:=Zh hL
    have HFs:=Zh (pConst_fine (en:=en) (Nat.le_refl r.length))
    have HCall:=Zh (fun U v' (h:QS w U rb r en 0 v')=>constant_any U rb r en v' h.st)
    generalize pConst en r=M at *
    have HG:=Zh hg
    clear hL hng hg hc hm
    go_wp2_with fail
    refine HT.out.mono ?_
    clear HT c0 hm0
    rintro e w5 ⟨rfl,ht5,v5,hr5⟩
    have hL5:=HL.out.t1 (G':=pSrc en f acc r) ht5 hr5 (by simp) rfl
    have hbd:Below w5.heap.size w5 w5.drew:=(Grew.refl w5).drew.below
    have HL5:=Zh (hL5.t1 (G':=pSrc en f acc r) (T1.bel hbd) (hL5.qs.bel hbd).rd (Nat.le_refl _) rfl)
    have HC:=Zh (HCall.out w5.drew v5 HL5.out.qs)
    have HLt:Hid (∀el r4,M=PR.ok el r4→r4.length < r.length):=Zh (fun el r4 h=>fineS_lt HFs.out h)
    have HLs:Hid (r.length≤r.length):=Zh (Nat.le_refl _)
    have d5:=HL5.out.s.cells.1
    clear ht5 hr5 hL5 hbd HL HCall HFs HNp
    go_upto_region 4 with fail
    refine wp_region_held_drew (S:=fun _=>True) (by kernel_rfl) ?_ (fun hHeld=>?_)
    ·trivial
    refine wpAnyH_take (i:=0) (v:=.pointer (some ⟨w.heap.size+1,0,none⟩)) rfl (by kernel_rfl) (by kernel_rfl) (by kernel_rfl) (fun _ _ _ h=>h) (Or.inl ⟨by rfl,by intro w hSw;(try dsimp only at hSw);go_simp⟩) (by assumption) ?_
    refine wpAnyH_take (i:=2) (v:=Zp rb) rfl (by kernel_rfl) (by kernel_rfl) (by kernel_rfl) (fun _ _ _ h=>h) (Or.inl ⟨by rfl,by intro w hSw;(try dsimp only at hSw);go_simp⟩) (by assumption) ?_
    refine wpAnyH_ready (rs:=[1,3]) (by kernel_rfl) (by simp) ?_
    refine AllReadyH.cons rfl (fun K hK=>?_) ?_
    ·go_simp
     refine hK.out _ _ trivial (fun hHeld=>?_)
     clear hK K
     refine wpAnyH_ready (rs:=[3]) (by kernel_rfl) (by simp) ?_
     refine AllReadyH.cons rfl (fun K hK=>?_) ?_
     ·go_simp
      refine HC.out.mono ?_
      cases M
      case er p x=>(rintro e w6 ⟨rfl,ht⟩;exact⟨rfl,er_fin HG.out (HL5.out.qs.t1.trans ht)⟩)
      rename_i el r4
      rintro e w6 ⟨ov,v6,rfl,hc,hr6,ht⟩
      obtain⟨u,xs,xk,xo,xn,xl,xc,l,c,xa,xq,xqc,rfl⟩:=okCo_10 hc
      have HL6:=Zh (HL5.out.t1 (G':=pSrc en f acc r4) ht hr6 (Nat.le_of_lt (HLt.out _ _ rfl)) rfl)
      have HCc:=Zh hc
      have HG2:Hid (G=pSrc en f { acc with consts:=acc.consts ++ [el] } r4):=Zh HG.out
      have HLen:=Zh (HLt.out _ _ rfl)
      have hco:=HL6.out.co
      rw[← HNc.out] at hco
      have HAp:=Zh (row_app constE hco [.string u,Zi xk,Zi xo,Zi xn,.string xs,.slice xa xq xqc,Zi xl,Zi xc,Zi l,Zi c] rfl (by intro u hu;simp at hu;rcases hu with rfl | rfl | rfl | rfl | rfl | rfl | rfl | rfl | rfl | rfl <;> rfl) (by have:=HL6.out.ln;have:=HNc.out;omega) (by have:=blk_lt HL6.out.s;omega))
      have d6:=HL6.out.s.cells.1
      have d7:(w6.alloc (.cells #[.string u,Zi xk,Zi xo,Zi xn,.string xs,.slice xa xq xqc,Zi xl,Zi xc,Zi l,Zi c] 68)).cell? ⟨w.heap.size+1,0,none⟩=some (.slice ca cn cc):=((bel_al w6 _).cell (cell_lt d6)).trans d6
      clear hc hr6 ht HC hco
      go_wp2_with fail
      refine hK.out _ _ trivial (fun hHeld=>?_)
      clear hK K
      refine wpAnyH_ready (rs:=[4]) (by kernel_rfl) (by simp) ?_
      refine AllReadyH.cons rfl (fun K hK=>?_) ?_
      ·go_simp
       refine hK.out _ _ trivial (fun hHeld=>?_)
       clear hK K
       refine wpAnyH_ready (rs:=[5]) (by kernel_rfl) (by simp) ?_
       refine AllReadyH.cons rfl (fun K hK=>?_) ?_
       ·refine step_appP rfl _ _ 22 rfl (.slice ca cn cc) (.slice (some ⟨w6.heap.size,0,none⟩) 1 1) rfl rfl HAp.out ?_
        rintro v2 w7 hRA
        obtain⟨va,vc,rfl⟩:=hRA.shp
        obtain⟨w8,hw8⟩:=nm (w7.setCell ⟨w.heap.size+1,0,none⟩ (.slice va (cn+1) vc))
        have HL8:=Zh (HL6.out.addC HNc.out hRA rfl HCc.out (fun g hg=>hg.elim (fun h=>(World.ownsRow.lt HL5.out.co g h).2) (fun h=>(World.ownsRow.lt HL5.out.po g h).2)) (by have:=blk_lt HL5.out.s;omega) hw8 (f':=f) (G2:=G) HG2.out (by have h1:=HL5.out.ln;have h2:=HLen.out;omega))
        have hs7:RowS w7 (w.heap.size+1) (.slice ca cn cc) (.slice pa pn pc):=(hRA.bel.block _ (by omega)).trans HL6.out.s
        have e7:=hs7.cells.1
        have f7:=hs7.frz.1
        clear hRA hs7
        refine hK.out _ _ trivial (fun hHeld=>?_)
        clear hK K
        refine wpAnyH_take (i:=6) (v:=.pointer (some ⟨w.heap.size+1,0,none⟩)) rfl (by kernel_rfl) (by kernel_rfl) (by kernel_rfl) (fun _ _ _ h=>h) (Or.inl ⟨by rfl,by intro w hSw;(try dsimp only at hSw);go_simp⟩) (by assumption) ?_
        refine wpAnyH_ready (rs:=[7]) (by kernel_rfl) (by simp) ?_
        refine AllReadyH.cons rfl (fun K hK=>?_) ?_
        ·go_simp
         refine hK.out _ _ trivial (fun hHeld=>?_)
         clear hK K
         refine wpAnyH_done (by kernel_rfl) ?_ _
         clear d6 d7 e7 f7
         rw[← hw8]
         clear hw8
         have HLe:Hid (∃f acc us v ca cn cc pa pn pc cs ps,SrL w w8 rb en G f acc us v (.slice ca cn cc) (.slice pa pn pc) cs ps):=Zh ⟨f,{ acc with consts:=acc.consts ++ [el] },r4,v6,va,cn+1,vc,pa,pn,pc,cs ++ [.string u,Zi xk,Zi xo,Zi xn,.string xs,.slice xa xq xqc,Zi xl,Zi xc,Zi l,Zi c],ps,HL8.out⟩
         have HMe:Hid (measT rb w8 < measT rb wr):=Zh (by rw[HM.out,measT_rd HL8.out.qs.rd];have:=HLen.out;have:=HLs.out;omega)
         clear HL8 HL6 HCc HG2 HLen HAp HNc
         go_wp2_with fail
         go_roundw
         case rel=>exact HLe
         case measure=>exact HMe.out
        exact AllReadyH.nil
       exact AllReadyH.nil
      exact AllReadyH.nil
     exact AllReadyH.nil
    refine AllReadyH.cons rfl (fun K hK=>?_) ?_
    ·go_simp
     refine HC.out.mono ?_
     cases M
     case er p x=>(rintro e w6 ⟨rfl,ht⟩;exact⟨rfl,er_fin HG.out (HL5.out.qs.t1.trans ht)⟩)
     rename_i el r4
     rintro e w6 ⟨ov,v6,rfl,hc,hr6,ht⟩
     obtain⟨u,xs,xk,xo,xn,xl,xc,l,c,xa,xq,xqc,rfl⟩:=okCo_10 hc
     have HL6:=Zh (HL5.out.t1 (G':=pSrc en f acc r4) ht hr6 (Nat.le_of_lt (HLt.out _ _ rfl)) rfl)
     have HCc:=Zh hc
     have HG2:Hid (G=pSrc en f { acc with consts:=acc.consts ++ [el] } r4):=Zh HG.out
     have HLen:=Zh (HLt.out _ _ rfl)
     have hco:=HL6.out.co
     rw[← HNc.out] at hco
     have HAp:=Zh (row_app constE hco [.string u,Zi xk,Zi xo,Zi xn,.string xs,.slice xa xq xqc,Zi xl,Zi xc,Zi l,Zi c] rfl (by intro u hu;simp at hu;rcases hu with rfl | rfl | rfl | rfl | rfl | rfl | rfl | rfl | rfl | rfl <;> rfl) (by have:=HL6.out.ln;have:=HNc.out;omega) (by have:=blk_lt HL6.out.s;omega))
     have d6:=HL6.out.s.cells.1
     have d7:(w6.alloc (.cells #[.string u,Zi xk,Zi xo,Zi xn,.string xs,.slice xa xq xqc,Zi xl,Zi xc,Zi l,Zi c] 68)).cell? ⟨w.heap.size+1,0,none⟩=some (.slice ca cn cc):=((bel_al w6 _).cell (cell_lt d6)).trans d6
     clear hc hr6 ht HC hco
     go_wp2_with fail
     refine hK.out _ _ trivial (fun hHeld=>?_)
     clear hK K
     refine wpAnyH_ready (rs:=[1,4]) (by kernel_rfl) (by simp) ?_
     refine AllReadyH.cons rfl (fun K hK=>?_) ?_
     ·go_simp
      refine hK.out _ _ trivial (fun hHeld=>?_)
      clear hK K
      refine wpAnyH_ready (rs:=[4]) (by kernel_rfl) (by simp) ?_
      refine AllReadyH.cons rfl (fun K hK=>?_) ?_
      ·go_simp
       refine hK.out _ _ trivial (fun hHeld=>?_)
       clear hK K
       refine wpAnyH_ready (rs:=[5]) (by kernel_rfl) (by simp) ?_
       refine AllReadyH.cons rfl (fun K hK=>?_) ?_
       ·refine step_appP rfl _ _ 22 rfl (.slice ca cn cc) (.slice (some ⟨w6.heap.size,0,none⟩) 1 1) rfl rfl HAp.out ?_
        rintro v2 w7 hRA
        obtain⟨va,vc,rfl⟩:=hRA.shp
        obtain⟨w8,hw8⟩:=nm (w7.setCell ⟨w.heap.size+1,0,none⟩ (.slice va (cn+1) vc))
        have HL8:=Zh (HL6.out.addC HNc.out hRA rfl HCc.out (fun g hg=>hg.elim (fun h=>(World.ownsRow.lt HL5.out.co g h).2) (fun h=>(World.ownsRow.lt HL5.out.po g h).2)) (by have:=blk_lt HL5.out.s;omega) hw8 (f':=f) (G2:=G) HG2.out (by have h1:=HL5.out.ln;have h2:=HLen.out;omega))
        have hs7:RowS w7 (w.heap.size+1) (.slice ca cn cc) (.slice pa pn pc):=(hRA.bel.block _ (by omega)).trans HL6.out.s
        have e7:=hs7.cells.1
        have f7:=hs7.frz.1
        clear hRA hs7
        refine hK.out _ _ trivial (fun hHeld=>?_)
        clear hK K
        refine wpAnyH_take (i:=6) (v:=.pointer (some ⟨w.heap.size+1,0,none⟩)) rfl (by kernel_rfl) (by kernel_rfl) (by kernel_rfl) (fun _ _ _ h=>h) (Or.inl ⟨by rfl,by intro w hSw;(try dsimp only at hSw);go_simp⟩) (by assumption) ?_
        refine wpAnyH_ready (rs:=[7]) (by kernel_rfl) (by simp) ?_
        refine AllReadyH.cons rfl (fun K hK=>?_) ?_
        ·go_simp
         refine hK.out _ _ trivial (fun hHeld=>?_)
         clear hK K
         refine wpAnyH_done (by kernel_rfl) ?_ _
         clear d6 d7 e7 f7
         rw[← hw8]
         clear hw8
         have HLe:Hid (∃f acc us v ca cn cc pa pn pc cs ps,SrL w w8 rb en G f acc us v (.slice ca cn cc) (.slice pa pn pc) cs ps):=Zh ⟨f,{ acc with consts:=acc.consts ++ [el] },r4,v6,va,cn+1,vc,pa,pn,pc,cs ++ [.string u,Zi xk,Zi xo,Zi xn,.string xs,.slice xa xq xqc,Zi xl,Zi xc,Zi l,Zi c],ps,HL8.out⟩
         have HMe:Hid (measT rb w8 < measT rb wr):=Zh (by rw[HM.out,measT_rd HL8.out.qs.rd];have:=HLen.out;have:=HLs.out;omega)
         clear HL8 HL6 HCc HG2 HLen HAp HNc
         go_wp2_with fail
         go_roundw
         case rel=>exact HLe
         case measure=>exact HMe.out
        exact AllReadyH.nil
       exact AllReadyH.nil
      exact AllReadyH.nil
     refine AllReadyH.cons rfl (fun K hK=>?_) ?_
     ·go_simp
      refine hK.out _ _ trivial (fun hHeld=>?_)
      clear hK K
      refine wpAnyH_ready (rs:=[1]) (by kernel_rfl) (by simp) ?_
      refine AllReadyH.cons rfl (fun K hK=>?_) ?_
      ·go_simp
       refine hK.out _ _ trivial (fun hHeld=>?_)
       clear hK K
       refine wpAnyH_ready (rs:=[5]) (by kernel_rfl) (by simp) ?_
       refine AllReadyH.cons rfl (fun K hK=>?_) ?_
       ·refine step_appP rfl _ _ 22 rfl (.slice ca cn cc) (.slice (some ⟨w6.heap.size,0,none⟩) 1 1) rfl rfl HAp.out ?_
        rintro v2 w7 hRA
        obtain⟨va,vc,rfl⟩:=hRA.shp
        obtain⟨w8,hw8⟩:=nm (w7.setCell ⟨w.heap.size+1,0,none⟩ (.slice va (cn+1) vc))
        have HL8:=Zh (HL6.out.addC HNc.out hRA rfl HCc.out (fun g hg=>hg.elim (fun h=>(World.ownsRow.lt HL5.out.co g h).2) (fun h=>(World.ownsRow.lt HL5.out.po g h).2)) (by have:=blk_lt HL5.out.s;omega) hw8 (f':=f) (G2:=G) HG2.out (by have h1:=HL5.out.ln;have h2:=HLen.out;omega))
        have hs7:RowS w7 (w.heap.size+1) (.slice ca cn cc) (.slice pa pn pc):=(hRA.bel.block _ (by omega)).trans HL6.out.s
        have e7:=hs7.cells.1
        have f7:=hs7.frz.1
        clear hRA hs7
        refine hK.out _ _ trivial (fun hHeld=>?_)
        clear hK K
        refine wpAnyH_take (i:=6) (v:=.pointer (some ⟨w.heap.size+1,0,none⟩)) rfl (by kernel_rfl) (by kernel_rfl) (by kernel_rfl) (fun _ _ _ h=>h) (Or.inl ⟨by rfl,by intro w hSw;(try dsimp only at hSw);go_simp⟩) (by assumption) ?_
        refine wpAnyH_ready (rs:=[7]) (by kernel_rfl) (by simp) ?_
        refine AllReadyH.cons rfl (fun K hK=>?_) ?_
        ·go_simp
         refine hK.out _ _ trivial (fun hHeld=>?_)
         clear hK K
         refine wpAnyH_done (by kernel_rfl) ?_ _
         clear d6 d7 e7 f7
         rw[← hw8]
         clear hw8
         have HLe:Hid (∃f acc us v ca cn cc pa pn pc cs ps,SrL w w8 rb en G f acc us v (.slice ca cn cc) (.slice pa pn pc) cs ps):=Zh ⟨f,{ acc with consts:=acc.consts ++ [el] },r4,v6,va,cn+1,vc,pa,pn,pc,cs ++ [.string u,Zi xk,Zi xo,Zi xn,.string xs,.slice xa xq xqc,Zi xl,Zi xc,Zi l,Zi c],ps,HL8.out⟩
         have HMe:Hid (measT rb w8 < measT rb wr):=Zh (by rw[HM.out,measT_rd HL8.out.qs.rd];have:=HLen.out;have:=HLs.out;omega)
         clear HL8 HL6 HCc HG2 HLen HAp HNc
         go_wp2_with fail
         go_roundw
         case rel=>exact HLe
         case measure=>exact HMe.out
        exact AllReadyH.nil
       exact AllReadyH.nil
      exact AllReadyH.nil
     exact AllReadyH.nil
    exact AllReadyH.nil
   ·rw[if_neg hc] at hg
    rw[decide_eq_false hc,if_neg hc] at HT
    have HT:Hid (Calls Tryz.prog 44 #[Zp rb,.string ⟨#[99,111,110,115,116]⟩] wr fun e w'=>e=.returned (.bool false)∧T1 rb wr w'∧∃v',RdB w' rb (t :: r) en 0 v'):=Zh HT
    have HL:=Zh hL
    have HMu:=Zh (fun U v' (h:RdB U rb (t :: r) en 0 v')=>must_any U rb (t :: r) en 0 v' wProc (by decide) h)
    obtain⟨N,hN⟩:=nm (pMust en wProc (t :: r))
    rw[← hN] at HMu hg
    have HMu:Hid (∀U v',RdB U rb (t :: r) en 0 v'→Calls Tryz.prog 46 #[Zp rb,.string ⟨#[112,114,111,99]⟩] U (PrP U rb en 0 N fun _ v _=>v=.tuple #[])):=HMu
    have HN:=Zh hN
    have HG0:=Zh hg
    clear hL hng hg hc hm hN
    go_wp2_with fail
    refine HT.out.mono ?_
    clear HT c0 hm0
    rintro e w4 ⟨rfl,ht4,v4,hr4⟩
    have HL4:=Zh (HL.out.t1 (G':=pSrc en f acc (t :: r)) ht4 hr4 (Nat.le_refl _) rfl)
    have HMu4:=Zh (HMu.out w4 v4 hr4)
    clear ht4 hr4 HL HMu
    go_wp2_with fail
    refine HMu4.out.mono ?_
    clear HMu4
    cases N with
    | er p x=>
     rintro e w5 ⟨rfl,ht⟩
     exact⟨rfl,er_fin HG0.out (HL4.out.qs.t1.trans ht)⟩
    | ok un r3=>
    rintro e w5 ⟨_,v5,rfl,rfl,hr5,ht5⟩
    have hl3:=must_lt (by decide) HN.out.symm
    have hg:=HG0.out
    rw[PR.bind_ok] at hg
    have hL5:=HL4.out.t1 (G':=pSrc en f acc r3) ht5 hr5 (by simp only[List.length_cons] at hl3 ⊢;omega) rfl
    have hbd:Below w5.heap.size w5 w5.drew:=(Grew.refl w5).drew.below
    have HL5:=Zh (hL5.t1 (G':=pSrc en f acc r3) (T1.bel hbd) (hL5.qs.bel hbd).rd (Nat.le_refl _) rfl)
    have HLs:Hid (r3.length≤r.length):=Zh (by simp only[List.length_cons] at hl3;omega)
    have HFs:=Zh (pProc_fine (en:=en) (Nat.le_refl r3.length))
    have HC:=Zh (procedure_any w5.drew rb r3 en v5 HL5.out.qs.st (by have:=HLs.out;have:=HLr.out;omega))
    generalize pProc en r3=M at *
    have HG:=Zh hg
    have HLt:Hid (∀el r4,M=PR.ok el r4→r4.length < r3.length):=Zh (fun el r4 h=>fineS_lt HFs.out h)
    have d5:=HL5.out.s.cells.2
    clear ht5 hr5 hL5 hbd HL4 HFs HNc hg hl3 HN HG0
    go_upto_region 6 with fail
    refine wp_region_held_drew (S:=fun _=>True) (by kernel_rfl) ?_ (fun hHeld=>?_)
    ·trivial
    refine wpAnyH_take (i:=0) (v:=.pointer (some ⟨w.heap.size+1,1,none⟩)) rfl (by kernel_rfl) (by kernel_rfl) (by kernel_rfl) (fun _ _ _ h=>h) (Or.inl ⟨by rfl,by intro w hSw;(try dsimp only at hSw);go_simp⟩) (by assumption) ?_
    refine wpAnyH_take (i:=2) (v:=Zp rb) rfl (by kernel_rfl) (by kernel_rfl) (by kernel_rfl) (fun _ _ _ h=>h) (Or.inl ⟨by rfl,by intro w hSw;(try dsimp only at hSw);go_simp⟩) (by assumption) ?_
    refine wpAnyH_ready (rs:=[1,3]) (by kernel_rfl) (by simp) ?_
    refine AllReadyH.cons rfl (fun K hK=>?_) ?_
    ·go_simp
     refine hK.out _ _ trivial (fun hHeld=>?_)
     clear hK K
     refine wpAnyH_ready (rs:=[3]) (by kernel_rfl) (by simp) ?_
     refine AllReadyH.cons rfl (fun K hK=>?_) ?_
     ·go_simp
      refine HC.out.mono ?_
      cases M
      case er p x=>(rintro e w6 ⟨rfl,ht⟩;exact⟨rfl,er_fin HG.out (HL5.out.qs.t1.trans ht)⟩)
      rename_i el r4
      rintro e w6 ⟨ov,v6,rfl,hc,hr6,ht⟩
      obtain⟨u,l,c,aa,ra,wa,ba,aq,aqc,rq,rqc,wq,wqc,bq,bqc,rfl⟩:=okPr_7 hc
      have HL6:=Zh (HL5.out.t1 (G':=pSrc en f acc r4) ht hr6 (Nat.le_of_lt (HLt.out _ _ rfl)) rfl)
      have HCc:=Zh hc
      have HG2:Hid (G=pSrc en f { acc with procs:=acc.procs ++ [el] } r4):=Zh HG.out
      have HLen:=Zh (HLt.out _ _ rfl)
      have hco:=HL6.out.po
      rw[← HNp.out] at hco
      have HAp:=Zh (row_app defineE hco [.string u,.slice aa aq aqc,.slice ra rq rqc,.slice wa wq wqc,.slice ba bq bqc,Zi l,Zi c] rfl (by intro u hu;simp at hu;rcases hu with rfl | rfl | rfl | rfl | rfl | rfl | rfl <;> rfl) (by have:=HL6.out.ln;have:=HNp.out;omega) (by have:=blk_lt HL6.out.s;omega))
      have d6:=HL6.out.s.cells.2
      have d7:(w6.alloc (.cells #[.string u,.slice aa aq aqc,.slice ra rq rqc,.slice wa wq wqc,.slice ba bq bqc,Zi l,Zi c] 73)).cell? ⟨w.heap.size+1,1,none⟩=some (.slice pa pn pc):=((bel_al w6 _).cell (cell_lt d6)).trans d6
      clear hc hr6 ht HC hco
      go_wp2_with fail
      refine hK.out _ _ trivial (fun hHeld=>?_)
      clear hK K
      refine wpAnyH_ready (rs:=[4]) (by kernel_rfl) (by simp) ?_
      refine AllReadyH.cons rfl (fun K hK=>?_) ?_
      ·go_simp
       refine hK.out _ _ trivial (fun hHeld=>?_)
       clear hK K
       refine wpAnyH_ready (rs:=[5]) (by kernel_rfl) (by simp) ?_
       refine AllReadyH.cons rfl (fun K hK=>?_) ?_
       ·refine step_appP rfl _ _ 23 rfl (.slice pa pn pc) (.slice (some ⟨w6.heap.size,0,none⟩) 1 1) rfl rfl HAp.out ?_
        rintro v2 w7 hRA
        obtain⟨va,vc,rfl⟩:=hRA.shp
        obtain⟨w8,hw8⟩:=nm (w7.setCell ⟨w.heap.size+1,1,none⟩ (.slice va (pn+1) vc))
        have HL8:=Zh (HL6.out.addP HNp.out hRA rfl HCc.out (fun g hg=>hg.elim (fun h=>(World.ownsRow.lt HL5.out.co g h).2) (fun h=>(World.ownsRow.lt HL5.out.po g h).2)) (by have:=blk_lt HL5.out.s;omega) hw8 (f':=f) (G2:=G) HG2.out (by have h1:=HL5.out.ln;have h2:=HLen.out;omega))
        have hs7:RowS w7 (w.heap.size+1) (.slice ca cn cc) (.slice pa pn pc):=(hRA.bel.block _ (by omega)).trans HL6.out.s
        have e7:=hs7.cells.2
        have f7:=hs7.frz.2
        clear hRA hs7
        refine hK.out _ _ trivial (fun hHeld=>?_)
        clear hK K
        refine wpAnyH_take (i:=6) (v:=.pointer (some ⟨w.heap.size+1,1,none⟩)) rfl (by kernel_rfl) (by kernel_rfl) (by kernel_rfl) (fun _ _ _ h=>h) (Or.inl ⟨by rfl,by intro w hSw;(try dsimp only at hSw);go_simp⟩) (by assumption) ?_
        refine wpAnyH_ready (rs:=[7]) (by kernel_rfl) (by simp) ?_
        refine AllReadyH.cons rfl (fun K hK=>?_) ?_
        ·go_simp
         refine hK.out _ _ trivial (fun hHeld=>?_)
         clear hK K
         refine wpAnyH_done (by kernel_rfl) ?_ _
         clear d6 d7 e7 f7
         rw[← hw8]
         clear hw8
         have HLe:Hid (∃f acc us v ca cn cc pa pn pc cs ps,SrL w w8 rb en G f acc us v (.slice ca cn cc) (.slice pa pn pc) cs ps):=Zh ⟨f,{ acc with procs:=acc.procs ++ [el] },r4,v6,ca,cn,cc,va,pn+1,vc,cs,ps ++ [.string u,.slice aa aq aqc,.slice ra rq rqc,.slice wa wq wqc,.slice ba bq bqc,Zi l,Zi c],HL8.out⟩
         have HMe:Hid (measT rb w8 < measT rb wr):=Zh (by rw[HM.out,measT_rd HL8.out.qs.rd];have:=HLen.out;have:=HLs.out;omega)
         clear HL8 HL6 HCc HG2 HLen HAp HNp
         go_wp2_with fail
         go_roundw
         case rel=>exact HLe
         case measure=>exact HMe.out
        exact AllReadyH.nil
       exact AllReadyH.nil
      exact AllReadyH.nil
     exact AllReadyH.nil
    refine AllReadyH.cons rfl (fun K hK=>?_) ?_
    ·go_simp
     refine HC.out.mono ?_
     cases M
     case er p x=>(rintro e w6 ⟨rfl,ht⟩;exact⟨rfl,er_fin HG.out (HL5.out.qs.t1.trans ht)⟩)
     rename_i el r4
     rintro e w6 ⟨ov,v6,rfl,hc,hr6,ht⟩
     obtain⟨u,l,c,aa,ra,wa,ba,aq,aqc,rq,rqc,wq,wqc,bq,bqc,rfl⟩:=okPr_7 hc
     have HL6:=Zh (HL5.out.t1 (G':=pSrc en f acc r4) ht hr6 (Nat.le_of_lt (HLt.out _ _ rfl)) rfl)
     have HCc:=Zh hc
     have HG2:Hid (G=pSrc en f { acc with procs:=acc.procs ++ [el] } r4):=Zh HG.out
     have HLen:=Zh (HLt.out _ _ rfl)
     have hco:=HL6.out.po
     rw[← HNp.out] at hco
     have HAp:=Zh (row_app defineE hco [.string u,.slice aa aq aqc,.slice ra rq rqc,.slice wa wq wqc,.slice ba bq bqc,Zi l,Zi c] rfl (by intro u hu;simp at hu;rcases hu with rfl | rfl | rfl | rfl | rfl | rfl | rfl <;> rfl) (by have:=HL6.out.ln;have:=HNp.out;omega) (by have:=blk_lt HL6.out.s;omega))
     have d6:=HL6.out.s.cells.2
     have d7:(w6.alloc (.cells #[.string u,.slice aa aq aqc,.slice ra rq rqc,.slice wa wq wqc,.slice ba bq bqc,Zi l,Zi c] 73)).cell? ⟨w.heap.size+1,1,none⟩=some (.slice pa pn pc):=((bel_al w6 _).cell (cell_lt d6)).trans d6
     clear hc hr6 ht HC hco
     go_wp2_with fail
     refine hK.out _ _ trivial (fun hHeld=>?_)
     clear hK K
     refine wpAnyH_ready (rs:=[1,4]) (by kernel_rfl) (by simp) ?_
     refine AllReadyH.cons rfl (fun K hK=>?_) ?_
     ·go_simp
      refine hK.out _ _ trivial (fun hHeld=>?_)
      clear hK K
      refine wpAnyH_ready (rs:=[4]) (by kernel_rfl) (by simp) ?_
      refine AllReadyH.cons rfl (fun K hK=>?_) ?_
      ·go_simp
       refine hK.out _ _ trivial (fun hHeld=>?_)
       clear hK K
       refine wpAnyH_ready (rs:=[5]) (by kernel_rfl) (by simp) ?_
       refine AllReadyH.cons rfl (fun K hK=>?_) ?_
       ·refine step_appP rfl _ _ 23 rfl (.slice pa pn pc) (.slice (some ⟨w6.heap.size,0,none⟩) 1 1) rfl rfl HAp.out ?_
        rintro v2 w7 hRA
        obtain⟨va,vc,rfl⟩:=hRA.shp
        obtain⟨w8,hw8⟩:=nm (w7.setCell ⟨w.heap.size+1,1,none⟩ (.slice va (pn+1) vc))
        have HL8:=Zh (HL6.out.addP HNp.out hRA rfl HCc.out (fun g hg=>hg.elim (fun h=>(World.ownsRow.lt HL5.out.co g h).2) (fun h=>(World.ownsRow.lt HL5.out.po g h).2)) (by have:=blk_lt HL5.out.s;omega) hw8 (f':=f) (G2:=G) HG2.out (by have h1:=HL5.out.ln;have h2:=HLen.out;omega))
        have hs7:RowS w7 (w.heap.size+1) (.slice ca cn cc) (.slice pa pn pc):=(hRA.bel.block _ (by omega)).trans HL6.out.s
        have e7:=hs7.cells.2
        have f7:=hs7.frz.2
        clear hRA hs7
        refine hK.out _ _ trivial (fun hHeld=>?_)
        clear hK K
        refine wpAnyH_take (i:=6) (v:=.pointer (some ⟨w.heap.size+1,1,none⟩)) rfl (by kernel_rfl) (by kernel_rfl) (by kernel_rfl) (fun _ _ _ h=>h) (Or.inl ⟨by rfl,by intro w hSw;(try dsimp only at hSw);go_simp⟩) (by assumption) ?_
        refine wpAnyH_ready (rs:=[7]) (by kernel_rfl) (by simp) ?_
        refine AllReadyH.cons rfl (fun K hK=>?_) ?_
        ·go_simp
         refine hK.out _ _ trivial (fun hHeld=>?_)
         clear hK K
         refine wpAnyH_done (by kernel_rfl) ?_ _
         clear d6 d7 e7 f7
         rw[← hw8]
         clear hw8
         have HLe:Hid (∃f acc us v ca cn cc pa pn pc cs ps,SrL w w8 rb en G f acc us v (.slice ca cn cc) (.slice pa pn pc) cs ps):=Zh ⟨f,{ acc with procs:=acc.procs ++ [el] },r4,v6,ca,cn,cc,va,pn+1,vc,cs,ps ++ [.string u,.slice aa aq aqc,.slice ra rq rqc,.slice wa wq wqc,.slice ba bq bqc,Zi l,Zi c],HL8.out⟩
         have HMe:Hid (measT rb w8 < measT rb wr):=Zh (by rw[HM.out,measT_rd HL8.out.qs.rd];have:=HLen.out;have:=HLs.out;omega)
         clear HL8 HL6 HCc HG2 HLen HAp HNp
         go_wp2_with fail
         go_roundw
         case rel=>exact HLe
         case measure=>exact HMe.out
        exact AllReadyH.nil
       exact AllReadyH.nil
      exact AllReadyH.nil
     refine AllReadyH.cons rfl (fun K hK=>?_) ?_
     ·go_simp
      refine hK.out _ _ trivial (fun hHeld=>?_)
      clear hK K
      refine wpAnyH_ready (rs:=[1]) (by kernel_rfl) (by simp) ?_
      refine AllReadyH.cons rfl (fun K hK=>?_) ?_
      ·go_simp
       refine hK.out _ _ trivial (fun hHeld=>?_)
       clear hK K
       refine wpAnyH_ready (rs:=[5]) (by kernel_rfl) (by simp) ?_
       refine AllReadyH.cons rfl (fun K hK=>?_) ?_
       ·refine step_appP rfl _ _ 23 rfl (.slice pa pn pc) (.slice (some ⟨w6.heap.size,0,none⟩) 1 1) rfl rfl HAp.out ?_
        rintro v2 w7 hRA
        obtain⟨va,vc,rfl⟩:=hRA.shp
        obtain⟨w8,hw8⟩:=nm (w7.setCell ⟨w.heap.size+1,1,none⟩ (.slice va (pn+1) vc))
        have HL8:=Zh (HL6.out.addP HNp.out hRA rfl HCc.out (fun g hg=>hg.elim (fun h=>(World.ownsRow.lt HL5.out.co g h).2) (fun h=>(World.ownsRow.lt HL5.out.po g h).2)) (by have:=blk_lt HL5.out.s;omega) hw8 (f':=f) (G2:=G) HG2.out (by have h1:=HL5.out.ln;have h2:=HLen.out;omega))
        have hs7:RowS w7 (w.heap.size+1) (.slice ca cn cc) (.slice pa pn pc):=(hRA.bel.block _ (by omega)).trans HL6.out.s
        have e7:=hs7.cells.2
        have f7:=hs7.frz.2
        clear hRA hs7
        refine hK.out _ _ trivial (fun hHeld=>?_)
        clear hK K
        refine wpAnyH_take (i:=6) (v:=.pointer (some ⟨w.heap.size+1,1,none⟩)) rfl (by kernel_rfl) (by kernel_rfl) (by kernel_rfl) (fun _ _ _ h=>h) (Or.inl ⟨by rfl,by intro w hSw;(try dsimp only at hSw);go_simp⟩) (by assumption) ?_
        refine wpAnyH_ready (rs:=[7]) (by kernel_rfl) (by simp) ?_
        refine AllReadyH.cons rfl (fun K hK=>?_) ?_
        ·go_simp
         refine hK.out _ _ trivial (fun hHeld=>?_)
         clear hK K
         refine wpAnyH_done (by kernel_rfl) ?_ _
         clear d6 d7 e7 f7
         rw[← hw8]
         clear hw8
         have HLe:Hid (∃f acc us v ca cn cc pa pn pc cs ps,SrL w w8 rb en G f acc us v (.slice ca cn cc) (.slice pa pn pc) cs ps):=Zh ⟨f,{ acc with procs:=acc.procs ++ [el] },r4,v6,ca,cn,cc,va,pn+1,vc,cs,ps ++ [.string u,.slice aa aq aqc,.slice ra rq rqc,.slice wa wq wqc,.slice ba bq bqc,Zi l,Zi c],HL8.out⟩
         have HMe:Hid (measT rb w8 < measT rb wr):=Zh (by rw[HM.out,measT_rd HL8.out.qs.rd];have:=HLen.out;have:=HLs.out;omega)
         clear HL8 HL6 HCc HG2 HLen HAp HNp
         go_wp2_with fail
         go_roundw
         case rel=>exact HLe
         case measure=>exact HMe.out
        exact AllReadyH.nil
       exact AllReadyH.nil
      exact AllReadyH.nil
     exact AllReadyH.nil
    exact AllReadyH.nil
section
variable {pb:Nat} {al:Value} {L:List Tok} {en:Nat × Nat}
theorem dW_any (hL:TksOk L) (hlen:L.length≤70000) (U:World) {α:Type} (s:PR α) (nest:Nat) (hd:DS U pb al L en nest s):Calls Tryz.prog 57 #[Zp pb,Zi 1] U (DP A7 U pb al L en nest (s.bind fun _ ts=>pW en nest ts) (okE (New noB U.heap.size))):=by
 cases s with
 | er p x=>exact dexpr_er U nest 1 p x (show DS U pb al L en nest (PR.er p x:PR Unit) from hd) _ rfl
 | ok u ts=>exact dwhole_any hL hlen (20 * ts.length+20) U (.ok () ts) nest (show DS U pb al L en nest (PR.ok () ts:PR Unit) from hd) (pW_ne en nest ts)
end
section
variable {α:Type} {w W:World} {pb nest:Nat} {al:Value} {L:List Tok} {en:Nat × Nat} {okv:(Nat→Prop)→α→Value→World→Prop} {P P':Nat→Prop} {G:PR α}
theorem dres20 {R:Nat} {a0 a1 a2 a3 a4 a5 a6 a7 a8 a9 a10 a11 a12 a13 a14 a15 a16 a17 a18 a19 z0 z1 z2 z3 z4 z5 z6 z7 z8 z9 z10 z11 z12 z13 z14 z15 z16 z17 z18 z19:Value} (hq:DQ w W pb al L en nest G) (hR:w.heap.size≤R) (hz:Row20 W R z0 z1 z2 z3 z4 z5 z6 z7 z8 z9 z10 z11 z12 z13 z14 z15 z16 z17 z18 z19) (hA:A20 (.agg #[a0,a1,a2,a3,a4,a5,a6,a7,a8,a9,a10,a11,a12,a13,a14,a15,a16,a17,a18,a19])) (hok:OkvF okv) (hv:OV okv P G (.agg #[a0,a1,a2,a3,a4,a5,a6,a7,a8,a9,a10,a11,a12,a13,a14,a15,a16,a17,a18,a19]) W) (hP:∀k,P k→P' k∧k≠R) :
  Row20 (W.setRow R #[a0,a1,a2,a3,a4,a5,a6,a7,a8,a9,a10,a11,a12,a13,a14,a15,a16,a17,a18,a19]) R a0 a1 a2 a3 a4 a5 a6 a7 a8 a9 a10 a11 a12 a13 a14 a15 a16 a17 a18 a19∧DP A20 w pb al L en nest G (okv P') (.returned (.agg #[a0,a1,a2,a3,a4,a5,a6,a7,a8,a9,a10,a11,a12,a13,a14,a15,a16,a17,a18,a19])) (W.setRow R #[a0,a1,a2,a3,a4,a5,a6,a7,a8,a9,a10,a11,a12,a13,a14,a15,a16,a17,a18,a19]):=by
 have hp:Below w.heap.size W (W.setRow R #[a0,a1,a2,a3,a4,a5,a6,a7,a8,a9,a10,a11,a12,a13,a14,a15,a16,a17,a18,a19]):=setR_below (Below.refl _ _) hR _
 have hq2:=hq.low hp
 exact⟨hz.put _ _ _ _ _ _ _ _ _ _ _ _ _ _ _ _ _ _ _ _,_,rfl,hA,hq2.ds,hq2.t1,fun x r e=>hok _ _ _ _ _ _ (hv x r e) (fun k hk=>(hP k hk).1) (fun k hk _=>setR_other (hP k hk).2 _)⟩
end
theorem nm_text {P:Nat→Prop} {W:World} {ns:ByteArray} {nl nm:Int} {x:NmP} (h:okN P x (.agg #[.string ns,Zi nl,Zi nm]) W):ns=S x.1∧nl=(x.2.1:Int)∧nm=(x.2.2:Int):=by
 have h:(.agg #[.string ns,Zi nl,Zi nm]:Value)=.agg #[.string (S x.1),Zi (x.2.1:Int),Zi (x.2.2:Int)]:=h
 simp only[Value.agg.injEq,Array.mk.injEq,List.cons.injEq,Value.string.injEq,Value.int.injEq,true_and,and_true] at h
 exact h
def pGi (en:Nat × Nat) (nest:Nat) (t:List Tok):PR Ex:=(pMust en [61] t).bind fun _ r2=>pW en nest r2
section
variable (pb:Nat) (al:Value) (L:List Tok) (en:Nat × Nat) (f:Nat)
def DCb:Prop:=∀(U:World) (s:PR Unit) (nest:Nat),nest≤201→DS U pb al L en nest s→(s.bind fun _ ts=>pBl en f nest ts)≠.er (0,0) 0→Calls Tryz.prog 61 #[Zp pb] U (DP ASl U pb al L en nest (s.bind fun _ ts=>pBl en f nest ts) (okSs (New noB U.heap.size)))
def DCs:Prop:=∀(U:World) (ts:List Tok) (nest:Nat),DS U pb al L en nest (.ok () ts:PR Unit)→pSt en f nest ts≠.er (0,0) 0→Calls Tryz.prog 95 #[Zp pb] U (DP A20 U pb al L en nest (pSt en f nest ts) (okSt (New noB U.heap.size)))
def DCd:Prop:=∀(U:World) (s:PR Unit) (nest:Nat) (p:Nat × Nat),nest≤201→DS U pb al L en nest s→(s.bind fun _ ts=>pCo en f nest p ts)≠.er (0,0) 0→Calls Tryz.prog 118 #[Zp pb,.agg #[Zi (p.1:Int),Zi (p.2:Int)]] U (DP A20 U pb al L en nest (s.bind fun _ ts=>pCo en f nest p ts) (okSt (New noB U.heap.size)))
end
theorem dgivenW_any {α:Type} {pb:Nat} {al:Value} {L:List Tok} {en:Nat × Nat} (hL:TksOk L) (hlen:L.length≤70000) (w:World) (s:PR α) (nest:Nat) (hds:DS w pb al L en nest s):Calls Tryz.prog 34 #[Zp pb] w (DP A7 w pb al L en nest (s.bind fun _ t=>pGi en nest t) (okE (New noB w.heap.size))):=by
 obtain⟨s1,hs1⟩:=nm (s.bind fun _ t=>pMust en [61] t:PR Unit)
 obtain⟨s2,hs2⟩:=nm (s1.bind fun _ t=>pW en nest t:PR Ex)
 have hG:(s.bind fun _ t=>pGi en nest t)=s2:=by rw[hs2,hs1,PR.bind_assoc];rfl
 rw[hG]
 clear hG
 obtain⟨u1,hu1⟩:=nm (w.alloc (.cells #[Zi 0,Zi 0,Zi 0,Ze,Zn,Zi 0,Zi 0] 66))
 have hb0:Below w.heap.size w u1:=by rw[hu1];exact bel_al _ _
 have HQ:=Zh ((DQ.start hds).bel hb0)
 have HR:Hid (Row7 u1 w.heap.size (Zi 0) (Zi 0) (Zi 0) (Ze) (Zn) (Zi 0) (Zi 0)):=Zh (by rw[hu1];exact heap_alloc_new _ _ rfl)
 have HC:=Zh (cS HQ.out.lt (blk_lt HR.out))
 clear hb0
 clear hds
 go_enter Tryz.func34,Tryz.ntmps34
 go_upto_region 1 with fail
 rw[← hu1]
 clear hu1
 go_wp2_with fail
 refine (show Calls Tryz.prog 35 #[Zp pb,.string ⟨#[61]⟩] u1 (fun e w'=>e=.returned (.tuple #[])∧DS w' pb al L en nest s1∧T1 pb u1 w') from by rw[hs1];exact dtake_any u1 pb al L en nest s [61] hL hlen (by decide) HQ.out.ds).mono ?_
 rintro e u2 ⟨rfl,hds,ht⟩
 replace HR:=Zh (HR.out.t1 ht (by have:=HC.out;omega))
 replace HQ:=Zh (HQ.out.call ht hds)
 replace HC:=Zh (cU HC.out ht.size)
 clear ht hds
 go_wp2_with fail
 refine (show Calls Tryz.prog 57 #[Zp pb,Zi 1] u2 (DP A7 u2 pb al L en nest s2 (okE (New noB u2.heap.size))) from by rw[hs2];exact dW_any hL hlen u2 s1 nest HQ.out.ds).mono ?_
 rintro e u3 ⟨_,rfl,⟨xk,xo,xn,xl,xm,xs,xa,xq,xc,rfl⟩,hds,ht,hv⟩
 have hsz:=ht.size
 have hc1:=HC.out
 replace HR:=Zh (HR.out.t1 ht (by have:=HC.out;omega))
 replace HQ:=Zh (HQ.out.call ht hds)
 replace HC:=Zh (cU HC.out ht.size)
 clear ht hds
 have hc:=HC.out
 have HF:=Zh (dres7 (P':=New noB w.heap.size) HQ.out (by omega) HR.out ⟨_,_,_,_,_,_,_,_,_,rfl⟩ okE_f (OV.mono (P:=fun k=>w.heap.size < k) hv okE_f okE_lt' (fun k h1 h2=>by omega)) (fun k (hk:w.heap.size < k)=>⟨.inr (by omega),by omega⟩))
 obtain⟨_,f0,f1,f2,f3,f4,f5,f6⟩:=HR.out.cells
 clear HQ HR hc hc1 hv HC hs1 hs2 hsz
 go_wp2_with fail
 obtain⟨⟨d0,d1,d2,d3,d4,d5,d6⟩,_⟩:=HF.out.1.cells
 exact bodyPost_ret (v:=.agg #[Zi xk,Zi xo,Zi xn,.string xs,.slice xa xq xc,Zi xl,Zi xm]) (by simp[results,Tryz.results34,go_sem,d0,d1,d2,d3,d4,d5,d6]) rfl HF.out.2
structure NLd (w wr:World) (pb:Nat) (al:Value) (L:List Tok) (en:Nat × Nat) (nest BX:Nat) (G:PR (List NmP)) (f:Nat) (S:PR (List NmP)) (n:Nat) (cs:List Value) (x:Value) (ns:ByteArray) (nl nq:Int):Prop where
 dq:DQ w wr pb al L en nest S
 bx:Row3 wr BX (.string ns) (Zi nl) (Zi nq)
 bb:w.heap.size≤BX
 own:wr.ownsRow (BX+1) 89 3 x n cs
 cs:∀acc ts,S=.ok acc ts→n=acc.length∧cs=nmC acc∧n+ts.length≤100000
 eq:G=S.bind fun acc ts=>pNs en f acc ts
 ln:n≤100001
theorem DS.len {α:Type} {W:World} {pb nest:Nat} {al:Value} {L:List Tok} {en:Nat × Nat} {y:α} {ts:List Tok} (h:DS W pb al L en nest (PR.ok y ts)):ts.length≤L.length:=by
 obtain⟨_,k,_,rfl,_⟩:=h
 rw[List.length_drop]
 omega
theorem toU_like {α:Type} (S:PR α):Like (toU S) S:=by
 cases S with
 | er p e=>exact like_er p e
 | ok y r=>exact like_ok _ _ _
theorem dnames_any {pb:Nat} {al:Value} {L:List Tok} {en:Nat × Nat} (hL0:TksOk L) (hlen:L.length≤70000) (w:World) (ts:List Tok) (nest:Nat) (hds:DS w pb al L en nest (PR.ok () ts:PR Unit)):Calls Tryz.prog 59 #[Zp pb] w (DP ASl w pb al L en nest (pNames en ts) (okNs (New noB w.heap.size))):=by
 have hn:nest≤200:=hds.1
 have hll:=hds.len
 obtain⟨s1,hs1⟩:=nm (pName en ts:PR NmP)
 obtain⟨G,hG⟩:=nm (pNames en ts:PR (List NmP))
 rw[← hG]
 have hG1:G=s1.bind fun nm r=>pNs en (ts.length+1) [nm] r:=by rw[hG,hs1];rfl
 have HNe:Hid (G≠.er (0,0) 0):=Zh (by rw[hG];exact (pNames_fine (Nat.le_refl _)).ne)
 have HLs:Hid (ts.length≤70000):=Zh (by omega)
 clear hG hll
 have HQ:=Zh (DQ.start hds)
 have HC:=Zh (And.intro HQ.out.lt (Nat.le_refl w.heap.size))
 clear hds
 go_enter Tryz.func59,Tryz.ntmps59
 obtain⟨n1,hn1⟩:=nm w.heap.size
 replace HC:=Zh (cM HC.out hn1)
 go_wp2_with fail
 refine (show Calls Tryz.prog 33 #[Zp pb] w (DP A3 w pb al L en nest s1 (okN (New noB w.heap.size))) from by rw[hs1];exact dname_any w pb al L en nest hlen (.ok () ts) HQ.out.ds).mono ?_
 rintro e u1 ⟨_,rfl,⟨xs,xl,xm,rfl⟩,hds,ht,hv⟩
 replace HQ:=Zh (HQ.out.call ht hds)
 replace HC:=Zh (cU HC.out ht.size)
 clear ht hds
 obtain⟨u2,hu2⟩:=nm (u1.alloc (.cells #[.string xs,Zi xl,Zi xm] 89))
 obtain⟨BX,hBX⟩:=nm u1.heap.size
 have hb:Below u1.heap.size u1 u2:=by rw[hu2];exact bel_al _ _
 have HX:Hid (Row3 u2 BX (.string xs) (Zi xl) (Zi xm)):=Zh (by rw[hu2,hBX];exact heap_alloc_new _ _ rfl)
 have HVx:Hid (OV okN (fun k=>n1≤k∧k < BX) s1 (.agg #[.string xs,Zi xl,Zi xm]) u2):=Zh (OV.res hv okN_f okN_lt' hb (fun k h1 h2=>⟨by omega,by omega⟩))
 clear hv
 have hc0:=HC.out
 replace HQ:=Zh (HQ.out.bel hb)
 replace HC:=Zh (cA HC.out hBX (blk_lt HX.out))
 clear hb hc0
 go_upto_region 2 with fail
 rw[← hu2,← hBX]
 clear hu2 hBX
 clear hn1
 obtain⟨u3,hu3⟩:∃z,z=u2.alloc (.cells #[.string xs,Zi xl,Zi xm] 89):=⟨_,rfl⟩
 have hb:Below u2.heap.size u2 u3:=by rw[hu3];exact bel_al _ _
 have hc:=HC.out
 have hown:u3.ownsRow (BX+1) 89 3 (.slice (some ⟨u2.heap.size,0,none⟩) 1 1) 1 [.string xs,Zi xl,Zi xm]:=by rw[hu3];exact ownsRow_mono (row_lit u2 89 3 [.string xs,Zi xl,Zi xm] rfl) (by omega)
 have HL:Hid (∃f S m cs x ns nl nq,(.slice (some ⟨u2.heap.size,0,none⟩) 1 1:Value)=x∧NLd w u3 pb al L en nest BX G f S m cs x ns nl nq):=Zh ⟨ts.length+1,s1.bind fun nm r=>.ok [nm] r,1,_,_,xs,xl,xm,rfl,(HQ.out.call (T1.bel (Below.refl _ _)) (HQ.out.ds.like (like_unit s1 _))).bel hb,HX.out.kept hb,by omega,hown,fun acc r e=>by
  obtain⟨nm,rn,e1,e2⟩:=PR.bind_inv e
  simp only[PR.ok.injEq] at e2
  obtain⟨rfl,rfl⟩:=e2
  obtain⟨h1,h2,h3⟩:=nm_text (HVx.out nm rn e1)
  have h4:=pName_lt (hs1.symm.trans e1)
  have h5:=HLs.out
  exact⟨rfl,by rw[h1,h2,h3];rfl,by omega⟩,by rw[hG1,PR.bind_assoc];rfl,by omega⟩
 obtain⟨⟨x0,x1,x2⟩,_⟩:=HX.out.cells
 clear hb hc hown HC HQ HX HVx hs1 hG1 HLs
 go_upto_region 3 with fail
 rw[← hu3]
 clear hu3 x0 x1 x2
 go_loopw[4] (fun s wr=>Hid (∃f S m cs x ns nl nq,s=x∧NLd w wr pb al L en nest BX G f S m cs x ns nl nq)) (fun _ wr=>mD pb wr)
 case atStart=>exact HL
 case round=>
  clear HL
  obtain⟨f,S,n,cs,x,ns,nl,nq,rfl,hL⟩:=hrel.out
  have hrel:=hL.own
  obtain⟨xa,xc,rfl,hx3⟩:=own_slice hL.own
  clear hx3
  have hng:(S.bind fun acc ts=>pNs en f acc ts)≠.er (0,0) 0:=by rw[← hL.eq];exact HNe.out
  have HL:=Zh hL
  have hi:=dis_any wr pb al L en nest (toU S) [44] hL0 hlen (by decide) hL.dq.ds.toU
  rw[pkS_toU] at hi
  clear hL hrel
  by_cases he:pkS S=[44]
  ·rw[decide_eq_true he,if_pos he] at hi
   obtain⟨acc,us,rfl,hnx,_⟩:=pkS_ok HL.out.dq.ds hL0 (by decide) he
   obtain⟨f,rfl⟩:∃f',f=f'+1:=by
    cases f with
    | zero=>exact absurd (by rw[PR.bind_ok];simp only[pNs]) hng
    | succ f=>exact⟨f,rfl⟩
   have hg:=HL.out.eq
   rw[PR.bind_ok] at hg
   simp only[pNs] at hg
   rw[if_pos hnx] at hg
   have HTl:=Zh (tail_lt hnx (by decide))
   obtain⟨s2,hs2⟩:∃z:PR NmP,z=pName en us.tail:=⟨_,rfl⟩
   rw[← hs2] at hg
   have HG:=Zh hg
   have HM:Hid (mD pb wr=us.length+1):=Zh (mD_ok HL.out.dq.ds)
   have HJ:Hid (Calls Tryz.prog 32 #[Zp pb,.string ⟨#[44]⟩] wr fun e w'=>e=.returned (.bool true)∧DS w' pb al L en nest (PR.ok () us.tail:PR Unit)∧T1 pb wr w'):=Zh hi
   clear hi he hng hg hnx
   go_wp2_with fail
   refine HJ.out.mono ?_
   clear HJ
   rintro e w5 ⟨rfl,hds,ht⟩
   have HQ5:=Zh (HL.out.dq.call ht hds)
   have HX5:=Zh (HL.out.bx.t1 ht (by have:=HL.out.dq.lt;have:=HL.out.bb;omega))
   have HO5:=Zh (ownsRow_same HL.out.own (fun g hg=>ht.block g (World.ownsRow.lt HL.out.own g hg).2 (by have:=(World.ownsRow.lt HL.out.own g hg).1;have:=HL.out.dq.lt;have:=HL.out.bb;omega)))
   have HJ2:=Zh (show Calls Tryz.prog 33 #[Zp pb] w5 (DP A3 w5 pb al L en nest s2 (okN (New noB w5.heap.size))) from by rw[hs2];exact dname_any w5 pb al L en nest hlen (.ok () us.tail) HQ5.out.ds)
   clear hds ht
   go_wp2_with fail
   refine HJ2.out.mono ?_
   clear HJ2
   rintro e w6 ⟨_,rfl,⟨zs,zl,zm,rfl⟩,hds,ht,hv⟩
   have hlt:=HL.out.dq.lt
   have hbb:=HL.out.bb
   have hq6:=HQ5.out.call ht hds
   have hx6:=HX5.out.t1 ht (by omega)
   have ho6:=ownsRow_same HO5.out (fun g hg=>ht.block g (World.ownsRow.lt HO5.out g hg).2 (by have:=(World.ownsRow.lt HO5.out g hg).1;omega))
   obtain⟨w7,hw7⟩:∃z,z=((w6.setCell ⟨BX,0,none⟩ (.string zs)).setCell ⟨BX,1,none⟩ (Zi zl)).setCell ⟨BX,2,none⟩ (Zi zm):=⟨_,rfl⟩
   have hoth:∀k,k≠BX→w7.heap[k]? = w6.heap[k]?:=fun k hk=>by rw[hw7,heap_setCell_other _ _ _ _ hk,heap_setCell_other _ _ _ _ hk,heap_setCell_other _ _ _ _ hk]
   have hbe:Below w.heap.size w6 w7:=by rw[hw7];exact (((Below.refl _ _).setCell (p:=⟨BX,0,none⟩) (show w.heap.size≤BX by omega) _).setCell (p:=⟨BX,1,none⟩) (show w.heap.size≤BX by omega) _).setCell (p:=⟨BX,2,none⟩) (show w.heap.size≤BX by omega) _
   have HX7:Hid (Row3 w7 BX (.string zs) (Zi zl) (Zi zm)):=Zh (by rw[hw7];exact hx6.put _ _ _)
   have hq7:=hq6.low hbe
   have ho7:=ownsRow_same ho6 (fun g hg=>hoth g (by have:=(World.ownsRow.lt ho6 g hg).1;omega))
   have hBl:=blk_lt HX7.out
   have HAp:=Zh (row_app nameE ho7 [.string zs,Zi zl,Zi zm] rfl (by intro u hu;simp at hu;rcases hu with rfl | rfl | rfl <;> rfl) (by have:=HL.out.ln;omega) hBl)
   have HQ7:=Zh hq7
   have HVz:Hid (∀x r,s2=.ok x r→zs=S x.1∧zl=(x.2.1:Int)∧zm=(x.2.2:Int)):=Zh fun x r e=>nm_text (hv x r e)
   obtain⟨_,f0,f1,f2⟩:=hx6.cells
   obtain⟨⟨x0,x1,x2⟩,_⟩:=HX7.out.cells
   clear hds ht hv hlt hbb hq6 hx6 ho6 hoth hbe hq7 ho7 hBl HQ5 HX5 HO5
   go_upto_region 5 with fail
   rw[← hw7]
   clear hw7 f0 f1 f2
   go_wp2_with (at_builtin;refine wpL_appR rfl _ _ 70 rfl (.slice xa n xc) (.slice (some ⟨w7.heap.size,0,none⟩) 1 1) rfl rfl HAp.out ?_;rintro v2 w8 hRA)
   obtain⟨va,vc,rfl⟩:=hRA.shp
   have HRA:=Zh hRA
   have hbw:Below w.heap.size w7 w8:=HRA.out.bel.mono (by have:=HL.out.bb;omega)
   have HLe:Hid (∃f S m cs x ns nl nq,(.slice va (n+1) vc:Value)=x∧NLd w w8 pb al L en nest BX G f S m cs x ns nl nq):=Zh ⟨f,s2.bind fun nm r=>.ok (acc ++ [nm]) r,n+1,_,_,zs,zl,zm,rfl,(HQ7.out.call (T1.bel (Below.refl _ _)) (HQ7.out.ds.like (like_unit s2 _))).low hbw,(HRA.out.bel.block BX (Nat.lt_succ_self _)).trans HX7.out,HL.out.bb,HRA.out.own,fun acc2 r e=>by
    obtain⟨nm,rn,e1,e2⟩:=PR.bind_inv e
    simp only[PR.ok.injEq] at e2
    obtain⟨rfl,rfl⟩:=e2
    obtain⟨h1,h2,h3⟩:=HVz.out nm rn e1
    obtain⟨c1,c2,c3⟩:=HL.out.cs acc us rfl
    have h4:=pName_lt (hs2.symm.trans e1)
    have h5:=HTl.out
    refine⟨by rw[List.length_append,List.length_singleton,c1],by rw[nmC_app,c2,h1,h2,h3];rfl,by omega⟩,by rw[HG.out,PR.bind_assoc];rfl,by have:=(HL.out.cs acc us rfl).2.2;omega⟩
   have HMe:Hid (mD pb w8 < mD pb wr):=Zh (by
    rw[HM.out]
    obtain⟨_,_,_,_,_,_,_,_,_,hl8⟩:=HLe.out
    have hd:=HQ7.out.ds.low hbw HQ7.out.lt
    cases hk:s2 with
    | er p e=>
     rw[hk] at hd
     rw[mD_er hd]
     omega
    | ok X r=>
     rw[hk] at hd
     rw[mD_ok hd]
     have h4:=pName_lt (hs2.symm.trans hk)
     have h5:=HTl.out
     omega)
   clear hRA HRA HAp HQ7 HG HTl HM HVz HX7 HL hbw hs2 x0 x1 x2
   go_wp2_with fail
   go_roundw
   case rel=>exact HLe
   case measure=>exact HMe.out
  ·rw[decide_eq_false he,if_neg he] at hi
   have HJ:Hid (Calls Tryz.prog 32 #[Zp pb,.string ⟨#[44]⟩] wr fun e w'=>e=.returned (.bool false)∧DS w' pb al L en nest (toU S)∧T1 pb wr w'):=Zh hi
   have HGS:Hid (G=S):=Zh (by
    rw[HL.out.eq]
    have hd:=HL.out.dq.ds
    cases S with
    | er p e=>rfl
    | ok acc ts=>
     rw[PR.bind_ok] at hng ⊢
     have h2:=pkS_no hd hL0 (by decide) he
     cases f with
     | zero=>exact absurd (by simp only[pNs]) hng
     | succ f=>simp only[pNs];rw[if_neg h2])
   clear hi he hng
   go_wp2_with fail
   refine HJ.out.mono ?_
   clear HJ
   rintro e w5 ⟨rfl,hds,ht⟩
   have ho5:=ownsRow_same HL.out.own (fun g hg=>ht.block g (World.ownsRow.lt HL.out.own g hg).2 (by have:=(World.ownsRow.lt HL.out.own g hg).1;have:=HL.out.dq.lt;have:=HL.out.bb;omega))
   have HF:Hid (DP ASl w pb al L en nest G (okNs (New noB w.heap.size)) (.returned (.slice xa n xc)) w5):=Zh ⟨_,rfl,⟨_,_,_,rfl⟩,by rw[HGS.out];exact hds.like (toU_like S),HL.out.dq.t1.trans ht,fun acc r e=>by
    rw[HGS.out] at e
    obtain⟨c1,c2,_⟩:=HL.out.cs acc r e
    refine⟨?_,fun g hg=>.inr (by have:=(World.ownsRow.lt ho5 g hg).1;have:=HL.out.bb;omega)⟩
    rw[c1,c2] at ho5
    rw[c1]
    exact ownsRow_mono ho5 (Nat.zero_le _)⟩
   clear hds ht ho5 HL HGS HNe
   go_wp2_with fail
   exact bodyPost_ret (v:=.slice xa n xc) (by simp[results,Tryz.results59,go_sem]) rfl HF.out
end Go.Proofs.YtlfooogmoigpfaaGreatDoor
