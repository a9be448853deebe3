import Derived.Test.YtlfooogmoigpfaaGreatDoorQai
import Derived.Test.YtlfooogmoigpfaaGreatDoorQaa
set_option maxRecDepth 100000
set_option maxHeartbeats 8000000
namespace Go.Proofs.YtlfooogmoigpfaaGreatDoor
open Go.RowKit Go.Sort Go.Shelf
def pSi0 (en:Nat × Nat) (nest:Nat) (ts:List Tok):PR St:=
 if nxtT ts=wLet then pAs en nest 1 (0,0) ts.tail
 else if nxtT ts=wPut then pPut en nest ts.tail
 else if nxtT ts=wDel then (pName en ts.tail).bind fun nm r=>.ok (.mk 5 nm.1 ex0 ex0 [] [] (0,0)) r
 else if nxtT ts=wOut then (pW en nest ts.tail).bind fun x r=>.ok (.mk 6 [] x ex0 [] [] (0,0)) r
 else if nxtT ts=wAbort then (pW en nest ts.tail).bind fun x r=>.ok (.mk 7 [] x ex0 [] [] (0,0)) r
 else if nxtT ts=wStop then .ok (.mk 8 [] ex0 ex0 [] [] (0,0)) ts.tail
 else pAs en nest 2 (0,0) ts
def setSt (p:Nat × Nat) (s:St):St:=match s with
 | .mk k nm x y b e _=>.mk k nm x y b e p
theorem pAs_set (en:Nat × Nat) (nest k:Nat) (p:Nat × Nat) (ts:List Tok):pAs en nest k p ts=(pAs en nest k (0,0) ts).bind fun s r=>.ok (setSt p s) r:=by
 unfold pAs
 rw[PR.bind_assoc]
 congr 1
 funext nm r
 rw[PR.bind_assoc]
 congr 1
 funext _ r2
 rw[PR.bind_assoc]
 rfl
theorem pSi_eq (en:Nat × Nat) (nest:Nat) (ts:List Tok):pSi en nest ts=(pSi0 en nest ts).bind fun s r=>.ok (setSt (nxtP en ts) s) r:=by
 unfold pSi pSi0
 split
 ·exact pAs_set ..
 split
 ·unfold pPut
  split
  ·rw[PR.bind_assoc]
   congr 1
   funext x r
   rw[PR.bind_assoc]
   congr 1
   funext _ r2
   rw[PR.bind_assoc]
   rfl
  ·exact pAs_set ..
 split
 ·rw[PR.bind_assoc];rfl
 split
 ·rw[PR.bind_assoc];rfl
 split
 ·rw[PR.bind_assoc];rfl
 split
 ·rfl
 ·exact pAs_set ..
theorem simpleLet_any (w:World) (rb:Nat) (ts:List Tok) (en:Nat × Nat) (nest:Nat) (v:Value) (hr:RdB w rb ts en nest v) (hn:nest≤200) (hj:JoVar w) (hjn:5≠rb) (h0:nxtT ts=wLet) :
  Calls Tryz.prog 135 #[Zp rb] w (PrP w rb en nest (pSi0 en nest ts) (okSt (New noB w.heap.size))):=by
 obtain⟨W1,hW1⟩:=nm (w.alloc (.cells #[Zi 0,Ze,Zi 0,Zi 0,Zi 0,Ze,Zn,Zi 0,Zi 0,Zi 0,Zi 0,Zi 0,Ze,Zn,Zi 0,Zi 0,Zn,Zn,Zi 0,Zi 0] 117))
 have hb1:Below w.heap.size w W1:=by rw[hW1];exact bel_al _ _
 have hq1:=(QS.start hr hj hjn).bel hb1
 have hz1:z20 W1 w.heap.size:=by rw[hW1];exact heap_alloc_new _ _ rfl
 obtain⟨G,hG⟩:=nm (pSi0 en nest ts)
 rw[← hG]
 unfold pSi0 at hG
 rw[if_pos h0] at hG
 have TK0:Hid (∀U v',RdB U rb ts en nest v'→Calls Tryz.prog 44 #[Zp rb,.string ⟨#[108,101,116]⟩] U fun e w'=>e=.returned (.bool true)∧T1 rb U w'∧∃v2,RdB w' rb ts.tail en nest v2):=Zh fun U v' h=>by
  have HT:=takes_any U rb ts en nest v' wLet (by decide) h
  rw[decide_eq_true h0,if_pos h0] at HT
  exact HT
 have HB:=Zh (fun U v' (hU:QS w U rb ts.tail en nest v')=>assignment_any U rb ts.tail en nest v' 1 hU.rd hn hU.jo hU.jn)
 rw[← hG] at HB
 have HB:Hid (∀U v',QS w U rb ts.tail en nest v'→Calls Tryz.prog 146 #[Zp rb,Zi 1] U (PrP U rb en nest G (okSt (New noB U.heap.size)))):=HB
 have HQ:=Zh hq1
 have HZ:=Zh hz1
 have HWs:Hid (w.heap.size < W1.heap.size):=blk_lt hz1
 clear hr hj hjn hb1 hq1 hz1 hG hn h0
 go_enter Tryz.func135,Tryz.ntmps135
 go_upto_region 1 with fail
 rw[← hW1]
 clear hW1
 go_wp2_with fail
 refine (TK0.out _ _ HQ.out.rd).mono ?_
 clear TK0
 rintro e u0 ⟨rfl,ht,v0,hr⟩
 have hlt:=HQ.out.lt
 have HZ:=Zh (HZ.out.t1 ht (by omega))
 have HQ:=Zh (HQ.out.call ht hr)
 clear ht hr hlt
 have HB2:=Zh (HB.out u0 _ HQ.out)
 clear HB HWs
 go_wp2_with fail
 refine HB2.out.mono ?_
 clear HB2
 cases G with
 | er p x=>
  rintro e w6 ⟨rfl,ht⟩
  exact⟨rfl,er_fin rfl (HQ.out.t1.trans ht)⟩
 | ok y r3=>
  rintro e w6 ⟨yv,v3,rfl,hy,hr6,ht⟩
  obtain⟨k,xk,xo,xn,xl,xc,yk,yo,yn,yl,yc,l,c,s,xs,ys,xa,ya,ba,ea,xq,xqc,yq,yqc,bq,bqc,eq,eqc,rfl⟩:=okSt_20 _ _ _ _ hy
  have hlt:=HQ.out.lt
  have hq6:=HQ.out.call ht hr6
  have hz6:=HZ.out.t1 ht (by omega)
  have hzs:=blk_lt HZ.out
  have HF:=Zh (res20 rfl okSt_f (Nat.le_refl _) hlt hq6.t1 hz6 hy (P':=New noB w.heap.size) (fun k hk=>hk.imp id (fun h=>by omega)) (fun k hk=>by
   rcases hk with hk | hk
   ·exact hk.elim
   ·omega) hr6)
  clear hy hr6 ht hlt hq6 hzs HQ HZ
  go_wp2_with (refine wpList_store_row rfl 117 _ _ rfl w.heap.size #[Zi k,.string s,Zi xk,Zi xo,Zi xn,.string xs,.slice xa xq xqc,Zi xl,Zi xc,Zi yk,Zi yo,Zi yn,.string ys,.slice ya yq yqc,Zi yl,Zi yc,.slice ba bq bqc,.slice ea eq eqc,Zi l,Zi c] rfl rfl 117 _ hz6 (by kernel_rfl) rfl (by kernel_rfl) ?_)
  obtain⟨h1,h2⟩:=HF.out
  clear HF hz6
  generalize w6.setRow w.heap.size #[Zi k,.string s,Zi xk,Zi xo,Zi xn,.string xs,.slice xa xq xqc,Zi xl,Zi xc,Zi yk,Zi yo,Zi yn,.string ys,.slice ya yq yqc,Zi yl,Zi yc,.slice ba bq bqc,.slice ea eq eqc,Zi l,Zi c]=W7 at h1 h2 ⊢
  exact bodyPost_ret (v:=.agg #[Zi k,.string s,Zi xk,Zi xo,Zi xn,.string xs,.slice xa xq xqc,Zi xl,Zi xc,Zi yk,Zi yo,Zi yn,.string ys,.slice ya yq yqc,Zi yl,Zi yc,.slice ba bq bqc,.slice ea eq eqc,Zi l,Zi c]) (res_cell Tryz.results135 rfl h1.load) rfl h2
theorem simplePut_any (w:World) (rb:Nat) (ts:List Tok) (en:Nat × Nat) (nest:Nat) (v:Value) (hr:RdB w rb ts en nest v) (hn:nest≤200) (hj:JoVar w) (hjn:5≠rb) (h0:¬nxtT ts=wLet) (h1:nxtT ts=wPut) :
  Calls Tryz.prog 135 #[Zp rb] w (PrP w rb en nest (pSi0 en nest ts) (okSt (New noB w.heap.size))):=by
 obtain⟨W1,hW1⟩:=nm (w.alloc (.cells #[Zi 0,Ze,Zi 0,Zi 0,Zi 0,Ze,Zn,Zi 0,Zi 0,Zi 0,Zi 0,Zi 0,Ze,Zn,Zi 0,Zi 0,Zn,Zn,Zi 0,Zi 0] 117))
 have hb1:Below w.heap.size w W1:=by rw[hW1];exact bel_al _ _
 have hq1:=(QS.start hr hj hjn).bel hb1
 have hz1:z20 W1 w.heap.size:=by rw[hW1];exact heap_alloc_new _ _ rfl
 obtain⟨G,hG⟩:=nm (pSi0 en nest ts)
 rw[← hG]
 unfold pSi0 at hG
 rw[if_neg h0,if_pos h1] at hG
 have TK0:Hid (∀U v',RdB U rb ts en nest v'→Calls Tryz.prog 44 #[Zp rb,.string ⟨#[108,101,116]⟩] U fun e w'=>e=.returned (.bool false)∧T1 rb U w'∧∃v2,RdB w' rb ts en nest v2):=Zh fun U v' h=>by
  have HT:=takes_any U rb ts en nest v' wLet (by decide) h
  rw[decide_eq_false h0,if_neg h0] at HT
  exact HT
 have TK1:Hid (∀U v',RdB U rb ts en nest v'→Calls Tryz.prog 44 #[Zp rb,.string ⟨#[112,117,116]⟩] U fun e w'=>e=.returned (.bool true)∧T1 rb U w'∧∃v2,RdB w' rb ts.tail en nest v2):=Zh fun U v' h=>by
  have HT:=takes_any U rb ts en nest v' wPut (by decide) h
  rw[decide_eq_true h1,if_pos h1] at HT
  exact HT
 have HB:=Zh (fun U v' (hU:QS w U rb ts.tail en nest v')=>put_any U rb ts.tail en nest v' hU.rd hn hU.jo hU.jn)
 rw[← hG] at HB
 have HQ:=Zh hq1
 have HZ:=Zh hz1
 have HWs:Hid (w.heap.size < W1.heap.size):=blk_lt hz1
 clear hr hj hjn hb1 hq1 hz1 hG hn h0 h1
 go_enter Tryz.func135,Tryz.ntmps135
 go_upto_region 1 with fail
 rw[← hW1]
 clear hW1
 go_wp2_with fail
 refine (TK0.out _ _ HQ.out.rd).mono ?_
 clear TK0
 rintro e u0 ⟨rfl,ht,v0,hr⟩
 have hlt:=HQ.out.lt
 have HZ:=Zh (HZ.out.t1 ht (by omega))
 have HQ:=Zh (HQ.out.call ht hr)
 clear ht hr hlt
 go_wp2_with fail
 refine (TK1.out _ _ HQ.out.rd).mono ?_
 clear TK1
 rintro e u1 ⟨rfl,ht,v1,hr⟩
 have hlt:=HQ.out.lt
 have HZ:=Zh (HZ.out.t1 ht (by omega))
 have HQ:=Zh (HQ.out.call ht hr)
 clear ht hr hlt
 have HB2:=Zh (HB.out u1 _ HQ.out)
 clear HB HWs
 go_wp2_with fail
 refine HB2.out.mono ?_
 clear HB2
 cases G with
 | er p x=>
  rintro e w6 ⟨rfl,ht⟩
  exact⟨rfl,er_fin rfl (HQ.out.t1.trans ht)⟩
 | ok y r3=>
  rintro e w6 ⟨yv,v3,rfl,hy,hr6,ht⟩
  obtain⟨k,xk,xo,xn,xl,xc,yk,yo,yn,yl,yc,l,c,s,xs,ys,xa,ya,ba,ea,xq,xqc,yq,yqc,bq,bqc,eq,eqc,rfl⟩:=okSt_20 _ _ _ _ hy
  have hlt:=HQ.out.lt
  have hq6:=HQ.out.call ht hr6
  have hz6:=HZ.out.t1 ht (by omega)
  have hzs:=blk_lt HZ.out
  have HF:=Zh (res20 rfl okSt_f (Nat.le_refl _) hlt hq6.t1 hz6 hy (P':=New noB w.heap.size) (fun k hk=>hk.imp id (fun h=>by omega)) (fun k hk=>by
   rcases hk with hk | hk
   ·exact hk.elim
   ·omega) hr6)
  clear hy hr6 ht hlt hq6 hzs HQ HZ
  go_wp2_with (refine wpList_store_row rfl 117 _ _ rfl w.heap.size #[Zi k,.string s,Zi xk,Zi xo,Zi xn,.string xs,.slice xa xq xqc,Zi xl,Zi xc,Zi yk,Zi yo,Zi yn,.string ys,.slice ya yq yqc,Zi yl,Zi yc,.slice ba bq bqc,.slice ea eq eqc,Zi l,Zi c] rfl rfl 117 _ hz6 (by kernel_rfl) rfl (by kernel_rfl) ?_)
  obtain⟨h1,h2⟩:=HF.out
  clear HF hz6
  generalize w6.setRow w.heap.size #[Zi k,.string s,Zi xk,Zi xo,Zi xn,.string xs,.slice xa xq xqc,Zi xl,Zi xc,Zi yk,Zi yo,Zi yn,.string ys,.slice ya yq yqc,Zi yl,Zi yc,.slice ba bq bqc,.slice ea eq eqc,Zi l,Zi c]=W7 at h1 h2 ⊢
  exact bodyPost_ret (v:=.agg #[Zi k,.string s,Zi xk,Zi xo,Zi xn,.string xs,.slice xa xq xqc,Zi xl,Zi xc,Zi yk,Zi yo,Zi yn,.string ys,.slice ya yq yqc,Zi yl,Zi yc,.slice ba bq bqc,.slice ea eq eqc,Zi l,Zi c]) (res_cell Tryz.results135 rfl h1.load) rfl h2
theorem simpleDel_any (w:World) (rb:Nat) (ts:List Tok) (en:Nat × Nat) (nest:Nat) (v:Value) (hr:RdB w rb ts en nest v) (hj:JoVar w) (hjn:5≠rb) (h0:¬nxtT ts=wLet) (h1:¬nxtT ts=wPut) (h2:nxtT ts=wDel) :
  Calls Tryz.prog 135 #[Zp rb] w (PrP w rb en nest (pSi0 en nest ts) (okSt (New noB w.heap.size))):=by
 obtain⟨W1,hW1⟩:=nm (w.alloc (.cells #[Zi 0,Ze,Zi 0,Zi 0,Zi 0,Ze,Zn,Zi 0,Zi 0,Zi 0,Zi 0,Zi 0,Ze,Zn,Zi 0,Zi 0,Zn,Zn,Zi 0,Zi 0] 117))
 have hb1:Below w.heap.size w W1:=by rw[hW1];exact bel_al _ _
 have hq1:=(QS.start hr hj hjn).bel hb1
 have hz1:z20 W1 w.heap.size:=by rw[hW1];exact heap_alloc_new _ _ rfl
 obtain⟨G,hG⟩:=nm (pSi0 en nest ts)
 rw[← hG]
 unfold pSi0 at hG
 rw[if_neg h0,if_neg h1,if_pos h2] at hG
 have TK0:Hid (∀U v',RdB U rb ts en nest v'→Calls Tryz.prog 44 #[Zp rb,.string ⟨#[108,101,116]⟩] U fun e w'=>e=.returned (.bool false)∧T1 rb U w'∧∃v2,RdB w' rb ts en nest v2):=Zh fun U v' h=>by
  have HT:=takes_any U rb ts en nest v' wLet (by decide) h
  rw[decide_eq_false h0,if_neg h0] at HT
  exact HT
 have TK1:Hid (∀U v',RdB U rb ts en nest v'→Calls Tryz.prog 44 #[Zp rb,.string ⟨#[112,117,116]⟩] U fun e w'=>e=.returned (.bool false)∧T1 rb U w'∧∃v2,RdB w' rb ts en nest v2):=Zh fun U v' h=>by
  have HT:=takes_any U rb ts en nest v' wPut (by decide) h
  rw[decide_eq_false h1,if_neg h1] at HT
  exact HT
 have TK2:Hid (∀U v',RdB U rb ts en nest v'→Calls Tryz.prog 44 #[Zp rb,.string ⟨#[100,101,108]⟩] U fun e w'=>e=.returned (.bool true)∧T1 rb U w'∧∃v2,RdB w' rb ts.tail en nest v2):=Zh fun U v' h=>by
  have HT:=takes_any U rb ts en nest v' wDel (by decide) h
  rw[decide_eq_true h2,if_pos h2] at HT
  exact HT
 have HB:=Zh (fun U v' (hU:QS w U rb ts.tail en nest v')=>name_any U rb ts.tail en nest v' hU.rd)
 generalize pName en ts.tail=R at *
 have HG:=Zh hG
 have HQ:=Zh hq1
 have HZ:=Zh hz1
 have HWs:Hid (w.heap.size < W1.heap.size):=blk_lt hz1
 clear hr hj hjn hb1 hq1 hz1 hG h0 h1 h2
 go_enter Tryz.func135,Tryz.ntmps135
 go_upto_region 1 with fail
 rw[← hW1]
 clear hW1
 go_wp2_with fail
 refine (TK0.out _ _ HQ.out.rd).mono ?_
 clear TK0
 rintro e u0 ⟨rfl,ht,v0,hr⟩
 have hlt:=HQ.out.lt
 have HZ:=Zh (HZ.out.t1 ht (by omega))
 have HQ:=Zh (HQ.out.call ht hr)
 clear ht hr hlt
 go_wp2_with fail
 refine (TK1.out _ _ HQ.out.rd).mono ?_
 clear TK1
 rintro e u1 ⟨rfl,ht,v1,hr⟩
 have hlt:=HQ.out.lt
 have HZ:=Zh (HZ.out.t1 ht (by omega))
 have HQ:=Zh (HQ.out.call ht hr)
 clear ht hr hlt
 go_wp2_with fail
 refine (TK2.out _ _ HQ.out.rd).mono ?_
 clear TK2
 rintro e u2 ⟨rfl,ht,v2,hr⟩
 have hlt:=HQ.out.lt
 have HZ:=Zh (HZ.out.t1 ht (by omega))
 have HQ:=Zh (HQ.out.call ht hr)
 clear ht hr hlt
 have HB2:=Zh (HB.out u2 _ HQ.out)
 have HWt:Hid (u2.heap.size≥w.heap.size):=Zh HQ.out.ge
 have HZs:Hid (w.heap.size < u2.heap.size):=Zh (blk_lt HZ.out)
 clear HB HWs
 go_wp2_with fail
 refine HB2.out.mono ?_
 clear HB2
 cases R with
 | er p x=>
  rintro e w6 ⟨rfl,ht⟩
  exact⟨rfl,er_fin HG.out (HQ.out.t1.trans ht)⟩
 | ok y r3=>
  rintro e w6 ⟨yv,v6,rfl,rfl,hr6,ht⟩
  obtain⟨nt,nl,nc⟩:=y
  obtain⟨u,hu⟩:=nm (S nt)
  have hst:okSt noB (.mk 5 nt ex0 ex0 [] [] (0,0)) (.agg #[Zi 5,.string u,Zi 0,Zi 0,Zi 0,Ze,Zn,Zi 0,Zi 0,Zi 0,Zi 0,Zi 0,Ze,Zn,Zi 0,Zi 0,Zn,Zn,Zi 0,Zi 0]) w6:=by
   rw[hu]
   exact okSt_new (p:=(0,0)) 5 nt (okE_zero _ _) (okE_zero _ _) (RwS.nil _ _) (RwS.nil _ _)
  have hP:(∀k,noB k→New noB w.heap.size k)∧(∀k,noB k→k≠w.heap.size):=⟨fun k hk=>hk.elim,fun k hk=>hk.elim⟩
  simp only[← hu]
  have hfl:∀w:World,(Instr.field 89 (.agg #[.string u,Zi (nl:Int),Zi (nc:Int)]) 0).run Tryz.prog w=.ok (.string u) w:=fun _=>by kernel_rfl
  clear hu
  have hlt:=HQ.out.lt
  have hq6:=HQ.out.call ht hr6
  have hz6:=HZ.out.t1 ht (by omega)
  have HF:=Zh (res20 HG.out okSt_f (Nat.le_refl _) hlt hq6.t1 hz6 hst (P':=New noB w.heap.size) hP.1 hP.2 hr6)
  clear hr6 ht hlt hq6 hst hP HQ HZ HG HWt HZs
  go_wp2_with (refine wpList_store_row rfl 117 _ _ rfl w.heap.size #[Zi 5,.string u,Zi 0,Zi 0,Zi 0,Ze,Zn,Zi 0,Zi 0,Zi 0,Zi 0,Zi 0,Ze,Zn,Zi 0,Zi 0,Zn,Zn,Zi 0,Zi 0] rfl rfl 117 _ hz6 (by kernel_rfl) rfl (by kernel_rfl) ?_)
  obtain⟨h1,h2⟩:=HF.out
  clear HF hz6
  generalize w6.setRow w.heap.size #[Zi 5,.string u,Zi 0,Zi 0,Zi 0,Ze,Zn,Zi 0,Zi 0,Zi 0,Zi 0,Zi 0,Ze,Zn,Zi 0,Zi 0,Zn,Zn,Zi 0,Zi 0]=W7 at h1 h2 ⊢
  exact bodyPost_ret (v:=.agg #[Zi 5,.string u,Zi 0,Zi 0,Zi 0,Ze,Zn,Zi 0,Zi 0,Zi 0,Zi 0,Zi 0,Ze,Zn,Zi 0,Zi 0,Zn,Zn,Zi 0,Zi 0]) (res_cell Tryz.results135 rfl h1.load) rfl h2
theorem simpleOut_any (w:World) (rb:Nat) (ts:List Tok) (en:Nat × Nat) (nest:Nat) (v:Value) (hr:RdB w rb ts en nest v) (hn:nest≤200) (hj:JoVar w) (hjn:5≠rb) (h0:¬nxtT ts=wLet) (h1:¬nxtT ts=wPut) (h2:¬nxtT ts=wDel) (h3:nxtT ts=wOut) :
  Calls Tryz.prog 135 #[Zp rb] w (PrP w rb en nest (pSi0 en nest ts) (okSt (New noB w.heap.size))):=by
 obtain⟨W1,hW1⟩:=nm (w.alloc (.cells #[Zi 0,Ze,Zi 0,Zi 0,Zi 0,Ze,Zn,Zi 0,Zi 0,Zi 0,Zi 0,Zi 0,Ze,Zn,Zi 0,Zi 0,Zn,Zn,Zi 0,Zi 0] 117))
 have hb1:Below w.heap.size w W1:=by rw[hW1];exact bel_al _ _
 have hq1:=(QS.start hr hj hjn).bel hb1
 have hz1:z20 W1 w.heap.size:=by rw[hW1];exact heap_alloc_new _ _ rfl
 obtain⟨G,hG⟩:=nm (pSi0 en nest ts)
 rw[← hG]
 unfold pSi0 at hG
 rw[if_neg h0,if_neg h1,if_neg h2,if_pos h3] at hG
 have TK0:Hid (∀U v',RdB U rb ts en nest v'→Calls Tryz.prog 44 #[Zp rb,.string ⟨#[108,101,116]⟩] U fun e w'=>e=.returned (.bool false)∧T1 rb U w'∧∃v2,RdB w' rb ts en nest v2):=Zh fun U v' h=>by
  have HT:=takes_any U rb ts en nest v' wLet (by decide) h
  rw[decide_eq_false h0,if_neg h0] at HT
  exact HT
 have TK1:Hid (∀U v',RdB U rb ts en nest v'→Calls Tryz.prog 44 #[Zp rb,.string ⟨#[112,117,116]⟩] U fun e w'=>e=.returned (.bool false)∧T1 rb U w'∧∃v2,RdB w' rb ts en nest v2):=Zh fun U v' h=>by
  have HT:=takes_any U rb ts en nest v' wPut (by decide) h
  rw[decide_eq_false h1,if_neg h1] at HT
  exact HT
 have TK2:Hid (∀U v',RdB U rb ts en nest v'→Calls Tryz.prog 44 #[Zp rb,.string ⟨#[100,101,108]⟩] U fun e w'=>e=.returned (.bool false)∧T1 rb U w'∧∃v2,RdB w' rb ts en nest v2):=Zh fun U v' h=>by
  have HT:=takes_any U rb ts en nest v' wDel (by decide) h
  rw[decide_eq_false h2,if_neg h2] at HT
  exact HT
 have TK3:Hid (∀U v',RdB U rb ts en nest v'→Calls Tryz.prog 44 #[Zp rb,.string ⟨#[111,117,116]⟩] U fun e w'=>e=.returned (.bool true)∧T1 rb U w'∧∃v2,RdB w' rb ts.tail en nest v2):=Zh fun U v' h=>by
  have HT:=takes_any U rb ts en nest v' wOut (by decide) h
  rw[decide_eq_true h3,if_pos h3] at HT
  exact HT
 have HB:=Zh (fun U v' (hU:QS w U rb ts.tail en nest v')=>hU.expr hn)
 generalize pW en nest ts.tail=R at *
 have HG:=Zh hG
 have HQ:=Zh hq1
 have HZ:=Zh hz1
 have HWs:Hid (w.heap.size < W1.heap.size):=blk_lt hz1
 clear hr hj hjn hb1 hq1 hz1 hG hn h0 h1 h2 h3
 go_enter Tryz.func135,Tryz.ntmps135
 go_upto_region 1 with fail
 rw[← hW1]
 clear hW1
 go_wp2_with fail
 refine (TK0.out _ _ HQ.out.rd).mono ?_
 clear TK0
 rintro e u0 ⟨rfl,ht,v0,hr⟩
 have hlt:=HQ.out.lt
 have HZ:=Zh (HZ.out.t1 ht (by omega))
 have HQ:=Zh (HQ.out.call ht hr)
 clear ht hr hlt
 go_wp2_with fail
 refine (TK1.out _ _ HQ.out.rd).mono ?_
 clear TK1
 rintro e u1 ⟨rfl,ht,v1,hr⟩
 have hlt:=HQ.out.lt
 have HZ:=Zh (HZ.out.t1 ht (by omega))
 have HQ:=Zh (HQ.out.call ht hr)
 clear ht hr hlt
 go_wp2_with fail
 refine (TK2.out _ _ HQ.out.rd).mono ?_
 clear TK2
 rintro e u2 ⟨rfl,ht,v2,hr⟩
 have hlt:=HQ.out.lt
 have HZ:=Zh (HZ.out.t1 ht (by omega))
 have HQ:=Zh (HQ.out.call ht hr)
 clear ht hr hlt
 go_wp2_with fail
 refine (TK3.out _ _ HQ.out.rd).mono ?_
 clear TK3
 rintro e u3 ⟨rfl,ht,v3,hr⟩
 have hlt:=HQ.out.lt
 have HZ:=Zh (HZ.out.t1 ht (by omega))
 have HQ:=Zh (HQ.out.call ht hr)
 clear ht hr hlt
 have HB2:=Zh (HB.out u3 _ HQ.out)
 have HWt:Hid (u3.heap.size≥w.heap.size):=Zh HQ.out.ge
 have HZs:Hid (w.heap.size < u3.heap.size):=Zh (blk_lt HZ.out)
 clear HB HWs
 go_wp2_with fail
 refine HB2.out.mono ?_
 clear HB2
 cases R with
 | er p x=>
  rintro e w6 ⟨rfl,ht⟩
  exact⟨rfl,er_fin HG.out (HQ.out.t1.trans ht)⟩
 | ok y r3=>
  rintro e w6 ⟨yv,v6,rfl,hx,hr6,ht⟩
  obtain⟨xk,xo,xn,xl,xc,xs,xa,xq,xqc,rfl⟩:=okE_7 _ _ _ _ hx
  have hst:okSt (New noB u3.heap.size) (.mk 6 [] y ex0 [] [] (0,0)) (.agg #[Zi 6,Ze,Zi xk,Zi xo,Zi xn,.string xs,.slice xa xq xqc,Zi xl,Zi xc,Zi 0,Zi 0,Zi 0,Ze,Zn,Zi 0,Zi 0,Zn,Zn,Zi 0,Zi 0]) w6:=okSt_new (p:=(0,0)) 6 [] hx (okE_zero _ _) (RwS.nil _ _) (RwS.nil _ _)
  have hP:(∀k,New noB u3.heap.size k→New noB w.heap.size k)∧(∀k,New noB u3.heap.size k→k≠w.heap.size):=⟨fun k hk=>hk.imp id (fun h=>by have:=HWt.out;omega),fun k hk=>by
   have:=HZs.out
   rcases hk with hk | hk
   ·exact hk.elim
   ·omega⟩
  clear hx
  have hlt:=HQ.out.lt
  have hq6:=HQ.out.call ht hr6
  have hz6:=HZ.out.t1 ht (by omega)
  have HF:=Zh (res20 HG.out okSt_f (Nat.le_refl _) hlt hq6.t1 hz6 hst (P':=New noB w.heap.size) hP.1 hP.2 hr6)
  clear hr6 ht hlt hq6 hst hP HQ HZ HG HWt HZs
  go_wp2_with (refine wpList_store_row rfl 117 _ _ rfl w.heap.size #[Zi 6,Ze,Zi xk,Zi xo,Zi xn,.string xs,.slice xa xq xqc,Zi xl,Zi xc,Zi 0,Zi 0,Zi 0,Ze,Zn,Zi 0,Zi 0,Zn,Zn,Zi 0,Zi 0] rfl rfl 117 _ hz6 (by kernel_rfl) rfl (by kernel_rfl) ?_)
  obtain⟨h1,h2⟩:=HF.out
  clear HF hz6
  generalize w6.setRow w.heap.size #[Zi 6,Ze,Zi xk,Zi xo,Zi xn,.string xs,.slice xa xq xqc,Zi xl,Zi xc,Zi 0,Zi 0,Zi 0,Ze,Zn,Zi 0,Zi 0,Zn,Zn,Zi 0,Zi 0]=W7 at h1 h2 ⊢
  exact bodyPost_ret (v:=.agg #[Zi 6,Ze,Zi xk,Zi xo,Zi xn,.string xs,.slice xa xq xqc,Zi xl,Zi xc,Zi 0,Zi 0,Zi 0,Ze,Zn,Zi 0,Zi 0,Zn,Zn,Zi 0,Zi 0]) (res_cell Tryz.results135 rfl h1.load) rfl h2
theorem simpleAbort_any (w:World) (rb:Nat) (ts:List Tok) (en:Nat × Nat) (nest:Nat) (v:Value) (hr:RdB w rb ts en nest v) (hn:nest≤200) (hj:JoVar w) (hjn:5≠rb) (h0:¬nxtT ts=wLet) (h1:¬nxtT ts=wPut) (h2:¬nxtT ts=wDel) (h3:¬nxtT ts=wOut) (h4:nxtT ts=wAbort) :
  Calls Tryz.prog 135 #[Zp rb] w (PrP w rb en nest (pSi0 en nest ts) (okSt (New noB w.heap.size))):=by
 obtain⟨W1,hW1⟩:=nm (w.alloc (.cells #[Zi 0,Ze,Zi 0,Zi 0,Zi 0,Ze,Zn,Zi 0,Zi 0,Zi 0,Zi 0,Zi 0,Ze,Zn,Zi 0,Zi 0,Zn,Zn,Zi 0,Zi 0] 117))
 have hb1:Below w.heap.size w W1:=by rw[hW1];exact bel_al _ _
 have hq1:=(QS.start hr hj hjn).bel hb1
 have hz1:z20 W1 w.heap.size:=by rw[hW1];exact heap_alloc_new _ _ rfl
 obtain⟨G,hG⟩:=nm (pSi0 en nest ts)
 rw[← hG]
 unfold pSi0 at hG
 rw[if_neg h0,if_neg h1,if_neg h2,if_neg h3,if_pos h4] at hG
 have TK0:Hid (∀U v',RdB U rb ts en nest v'→Calls Tryz.prog 44 #[Zp rb,.string ⟨#[108,101,116]⟩] U fun e w'=>e=.returned (.bool false)∧T1 rb U w'∧∃v2,RdB w' rb ts en nest v2):=Zh fun U v' h=>by
  have HT:=takes_any U rb ts en nest v' wLet (by decide) h
  rw[decide_eq_false h0,if_neg h0] at HT
  exact HT
 have TK1:Hid (∀U v',RdB U rb ts en nest v'→Calls Tryz.prog 44 #[Zp rb,.string ⟨#[112,117,116]⟩] U fun e w'=>e=.returned (.bool false)∧T1 rb U w'∧∃v2,RdB w' rb ts en nest v2):=Zh fun U v' h=>by
  have HT:=takes_any U rb ts en nest v' wPut (by decide) h
  rw[decide_eq_false h1,if_neg h1] at HT
  exact HT
 have TK2:Hid (∀U v',RdB U rb ts en nest v'→Calls Tryz.prog 44 #[Zp rb,.string ⟨#[100,101,108]⟩] U fun e w'=>e=.returned (.bool false)∧T1 rb U w'∧∃v2,RdB w' rb ts en nest v2):=Zh fun U v' h=>by
  have HT:=takes_any U rb ts en nest v' wDel (by decide) h
  rw[decide_eq_false h2,if_neg h2] at HT
  exact HT
 have TK3:Hid (∀U v',RdB U rb ts en nest v'→Calls Tryz.prog 44 #[Zp rb,.string ⟨#[111,117,116]⟩] U fun e w'=>e=.returned (.bool false)∧T1 rb U w'∧∃v2,RdB w' rb ts en nest v2):=Zh fun U v' h=>by
  have HT:=takes_any U rb ts en nest v' wOut (by decide) h
  rw[decide_eq_false h3,if_neg h3] at HT
  exact HT
 have TK4:Hid (∀U v',RdB U rb ts en nest v'→Calls Tryz.prog 44 #[Zp rb,.string ⟨#[97,98,111,114,116]⟩] U fun e w'=>e=.returned (.bool true)∧T1 rb U w'∧∃v2,RdB w' rb ts.tail en nest v2):=Zh fun U v' h=>by
  have HT:=takes_any U rb ts en nest v' wAbort (by decide) h
  rw[decide_eq_true h4,if_pos h4] at HT
  exact HT
 have HB:=Zh (fun U v' (hU:QS w U rb ts.tail en nest v')=>hU.expr hn)
 generalize pW en nest ts.tail=R at *
 have HG:=Zh hG
 have HQ:=Zh hq1
 have HZ:=Zh hz1
 have HWs:Hid (w.heap.size < W1.heap.size):=blk_lt hz1
 clear hr hj hjn hb1 hq1 hz1 hG hn h0 h1 h2 h3 h4
 go_enter Tryz.func135,Tryz.ntmps135
 go_upto_region 1 with fail
 rw[← hW1]
 clear hW1
 go_wp2_with fail
 refine (TK0.out _ _ HQ.out.rd).mono ?_
 clear TK0
 rintro e u0 ⟨rfl,ht,v0,hr⟩
 have hlt:=HQ.out.lt
 have HZ:=Zh (HZ.out.t1 ht (by omega))
 have HQ:=Zh (HQ.out.call ht hr)
 clear ht hr hlt
 go_wp2_with fail
 refine (TK1.out _ _ HQ.out.rd).mono ?_
 clear TK1
 rintro e u1 ⟨rfl,ht,v1,hr⟩
 have hlt:=HQ.out.lt
 have HZ:=Zh (HZ.out.t1 ht (by omega))
 have HQ:=Zh (HQ.out.call ht hr)
 clear ht hr hlt
 go_wp2_with fail
 refine (TK2.out _ _ HQ.out.rd).mono ?_
 clear TK2
 rintro e u2 ⟨rfl,ht,v2,hr⟩
 have hlt:=HQ.out.lt
 have HZ:=Zh (HZ.out.t1 ht (by omega))
 have HQ:=Zh (HQ.out.call ht hr)
 clear ht hr hlt
 go_wp2_with fail
 refine (TK3.out _ _ HQ.out.rd).mono ?_
 clear TK3
 rintro e u3 ⟨rfl,ht,v3,hr⟩
 have hlt:=HQ.out.lt
 have HZ:=Zh (HZ.out.t1 ht (by omega))
 have HQ:=Zh (HQ.out.call ht hr)
 clear ht hr hlt
 go_wp2_with fail
 refine (TK4.out _ _ HQ.out.rd).mono ?_
 clear TK4
 rintro e u4 ⟨rfl,ht,v4,hr⟩
 have hlt:=HQ.out.lt
 have HZ:=Zh (HZ.out.t1 ht (by omega))
 have HQ:=Zh (HQ.out.call ht hr)
 clear ht hr hlt
 have HB2:=Zh (HB.out u4 _ HQ.out)
 have HWt:Hid (u4.heap.size≥w.heap.size):=Zh HQ.out.ge
 have HZs:Hid (w.heap.size < u4.heap.size):=Zh (blk_lt HZ.out)
 clear HB HWs
 go_wp2_with fail
 refine HB2.out.mono ?_
 clear HB2
 cases R with
 | er p x=>
  rintro e w6 ⟨rfl,ht⟩
  exact⟨rfl,er_fin HG.out (HQ.out.t1.trans ht)⟩
 | ok y r3=>
  rintro e w6 ⟨yv,v6,rfl,hx,hr6,ht⟩
  obtain⟨xk,xo,xn,xl,xc,xs,xa,xq,xqc,rfl⟩:=okE_7 _ _ _ _ hx
  have hst:okSt (New noB u4.heap.size) (.mk 7 [] y ex0 [] [] (0,0)) (.agg #[Zi 7,Ze,Zi xk,Zi xo,Zi xn,.string xs,.slice xa xq xqc,Zi xl,Zi xc,Zi 0,Zi 0,Zi 0,Ze,Zn,Zi 0,Zi 0,Zn,Zn,Zi 0,Zi 0]) w6:=okSt_new (p:=(0,0)) 7 [] hx (okE_zero _ _) (RwS.nil _ _) (RwS.nil _ _)
  have hP:(∀k,New noB u4.heap.size k→New noB w.heap.size k)∧(∀k,New noB u4.heap.size k→k≠w.heap.size):=⟨fun k hk=>hk.imp id (fun h=>by have:=HWt.out;omega),fun k hk=>by
   have:=HZs.out
   rcases hk with hk | hk
   ·exact hk.elim
   ·omega⟩
  clear hx
  have hlt:=HQ.out.lt
  have hq6:=HQ.out.call ht hr6
  have hz6:=HZ.out.t1 ht (by omega)
  have HF:=Zh (res20 HG.out okSt_f (Nat.le_refl _) hlt hq6.t1 hz6 hst (P':=New noB w.heap.size) hP.1 hP.2 hr6)
  clear hr6 ht hlt hq6 hst hP HQ HZ HG HWt HZs
  go_wp2_with (refine wpList_store_row rfl 117 _ _ rfl w.heap.size #[Zi 7,Ze,Zi xk,Zi xo,Zi xn,.string xs,.slice xa xq xqc,Zi xl,Zi xc,Zi 0,Zi 0,Zi 0,Ze,Zn,Zi 0,Zi 0,Zn,Zn,Zi 0,Zi 0] rfl rfl 117 _ hz6 (by kernel_rfl) rfl (by kernel_rfl) ?_)
  obtain⟨h1,h2⟩:=HF.out
  clear HF hz6
  generalize w6.setRow w.heap.size #[Zi 7,Ze,Zi xk,Zi xo,Zi xn,.string xs,.slice xa xq xqc,Zi xl,Zi xc,Zi 0,Zi 0,Zi 0,Ze,Zn,Zi 0,Zi 0,Zn,Zn,Zi 0,Zi 0]=W7 at h1 h2 ⊢
  exact bodyPost_ret (v:=.agg #[Zi 7,Ze,Zi xk,Zi xo,Zi xn,.string xs,.slice xa xq xqc,Zi xl,Zi xc,Zi 0,Zi 0,Zi 0,Ze,Zn,Zi 0,Zi 0,Zn,Zn,Zi 0,Zi 0]) (res_cell Tryz.results135 rfl h1.load) rfl h2
theorem simpleStop_any (w:World) (rb:Nat) (ts:List Tok) (en:Nat × Nat) (nest:Nat) (v:Value) (hr:RdB w rb ts en nest v) (hj:JoVar w) (hjn:5≠rb) (h0:¬nxtT ts=wLet) (h1:¬nxtT ts=wPut) (h2:¬nxtT ts=wDel) (h3:¬nxtT ts=wOut) (h4:¬nxtT ts=wAbort) (h5:nxtT ts=wStop) :
  Calls Tryz.prog 135 #[Zp rb] w (PrP w rb en nest (pSi0 en nest ts) (okSt (New noB w.heap.size))):=by
 obtain⟨W1,hW1⟩:=nm (w.alloc (.cells #[Zi 0,Ze,Zi 0,Zi 0,Zi 0,Ze,Zn,Zi 0,Zi 0,Zi 0,Zi 0,Zi 0,Ze,Zn,Zi 0,Zi 0,Zn,Zn,Zi 0,Zi 0] 117))
 have hb1:Below w.heap.size w W1:=by rw[hW1];exact bel_al _ _
 have hq1:=(QS.start hr hj hjn).bel hb1
 have hz1:z20 W1 w.heap.size:=by rw[hW1];exact heap_alloc_new _ _ rfl
 obtain⟨G,hG⟩:=nm (pSi0 en nest ts)
 rw[← hG]
 unfold pSi0 at hG
 rw[if_neg h0,if_neg h1,if_neg h2,if_neg h3,if_neg h4,if_pos h5] at hG
 have TK0:Hid (∀U v',RdB U rb ts en nest v'→Calls Tryz.prog 44 #[Zp rb,.string ⟨#[108,101,116]⟩] U fun e w'=>e=.returned (.bool false)∧T1 rb U w'∧∃v2,RdB w' rb ts en nest v2):=Zh fun U v' h=>by
  have HT:=takes_any U rb ts en nest v' wLet (by decide) h
  rw[decide_eq_false h0,if_neg h0] at HT
  exact HT
 have TK1:Hid (∀U v',RdB U rb ts en nest v'→Calls Tryz.prog 44 #[Zp rb,.string ⟨#[112,117,116]⟩] U fun e w'=>e=.returned (.bool false)∧T1 rb U w'∧∃v2,RdB w' rb ts en nest v2):=Zh fun U v' h=>by
  have HT:=takes_any U rb ts en nest v' wPut (by decide) h
  rw[decide_eq_false h1,if_neg h1] at HT
  exact HT
 have TK2:Hid (∀U v',RdB U rb ts en nest v'→Calls Tryz.prog 44 #[Zp rb,.string ⟨#[100,101,108]⟩] U fun e w'=>e=.returned (.bool false)∧T1 rb U w'∧∃v2,RdB w' rb ts en nest v2):=Zh fun U v' h=>by
  have HT:=takes_any U rb ts en nest v' wDel (by decide) h
  rw[decide_eq_false h2,if_neg h2] at HT
  exact HT
 have TK3:Hid (∀U v',RdB U rb ts en nest v'→Calls Tryz.prog 44 #[Zp rb,.string ⟨#[111,117,116]⟩] U fun e w'=>e=.returned (.bool false)∧T1 rb U w'∧∃v2,RdB w' rb ts en nest v2):=Zh fun U v' h=>by
  have HT:=takes_any U rb ts en nest v' wOut (by decide) h
  rw[decide_eq_false h3,if_neg h3] at HT
  exact HT
 have TK4:Hid (∀U v',RdB U rb ts en nest v'→Calls Tryz.prog 44 #[Zp rb,.string ⟨#[97,98,111,114,116]⟩] U fun e w'=>e=.returned (.bool false)∧T1 rb U w'∧∃v2,RdB w' rb ts en nest v2):=Zh fun U v' h=>by
  have HT:=takes_any U rb ts en nest v' wAbort (by decide) h
  rw[decide_eq_false h4,if_neg h4] at HT
  exact HT
 have TK5:Hid (∀U v',RdB U rb ts en nest v'→Calls Tryz.prog 44 #[Zp rb,.string ⟨#[115,116,111,112]⟩] U fun e w'=>e=.returned (.bool true)∧T1 rb U w'∧∃v2,RdB w' rb ts.tail en nest v2):=Zh fun U v' h=>by
  have HT:=takes_any U rb ts en nest v' wStop (by decide) h
  rw[decide_eq_true h5,if_pos h5] at HT
  exact HT
 have HG:=Zh hG
 have HQ:=Zh hq1
 have HZ:=Zh hz1
 have HWs:Hid (w.heap.size < W1.heap.size):=blk_lt hz1
 clear hr hj hjn hb1 hq1 hz1 hG h0 h1 h2 h3 h4 h5
 go_enter Tryz.func135,Tryz.ntmps135
 go_upto_region 1 with fail
 rw[← hW1]
 clear hW1
 go_wp2_with fail
 refine (TK0.out _ _ HQ.out.rd).mono ?_
 clear TK0
 rintro e u0 ⟨rfl,ht,v0,hr⟩
 have hlt:=HQ.out.lt
 have HZ:=Zh (HZ.out.t1 ht (by omega))
 have HQ:=Zh (HQ.out.call ht hr)
 clear ht hr hlt
 go_wp2_with fail
 refine (TK1.out _ _ HQ.out.rd).mono ?_
 clear TK1
 rintro e u1 ⟨rfl,ht,v1,hr⟩
 have hlt:=HQ.out.lt
 have HZ:=Zh (HZ.out.t1 ht (by omega))
 have HQ:=Zh (HQ.out.call ht hr)
 clear ht hr hlt
 go_wp2_with fail
 refine (TK2.out _ _ HQ.out.rd).mono ?_
 clear TK2
 rintro e u2 ⟨rfl,ht,v2,hr⟩
 have hlt:=HQ.out.lt
 have HZ:=Zh (HZ.out.t1 ht (by omega))
 have HQ:=Zh (HQ.out.call ht hr)
 clear ht hr hlt
 go_wp2_with fail
 refine (TK3.out _ _ HQ.out.rd).mono ?_
 clear TK3
 rintro e u3 ⟨rfl,ht,v3,hr⟩
 have hlt:=HQ.out.lt
 have HZ:=Zh (HZ.out.t1 ht (by omega))
 have HQ:=Zh (HQ.out.call ht hr)
 clear ht hr hlt
 go_wp2_with fail
 refine (TK4.out _ _ HQ.out.rd).mono ?_
 clear TK4
 rintro e u4 ⟨rfl,ht,v4,hr⟩
 have hlt:=HQ.out.lt
 have HZ:=Zh (HZ.out.t1 ht (by omega))
 have HQ:=Zh (HQ.out.call ht hr)
 clear ht hr hlt
 go_wp2_with fail
 refine (TK5.out _ _ HQ.out.rd).mono ?_
 clear TK5
 rintro e u5 ⟨rfl,ht,v5,hr⟩
 have hlt:=HQ.out.lt
 have HZ:=Zh (HZ.out.t1 ht (by omega))
 have HQ:=Zh (HQ.out.call ht hr)
 clear ht hr hlt
 have hst:okSt noB (.mk 8 [] ex0 ex0 [] [] (0,0)) (.agg #[Zi 8,Ze,Zi 0,Zi 0,Zi 0,Ze,Zn,Zi 0,Zi 0,Zi 0,Zi 0,Zi 0,Ze,Zn,Zi 0,Zi 0,Zn,Zn,Zi 0,Zi 0]) u5:=okSt_new (p:=(0,0)) 8 [] (okE_zero _ _) (okE_zero _ _) (RwS.nil _ _) (RwS.nil _ _)
 have hz6:=HZ.out
 have HF:=Zh (res20 HG.out okSt_f (Nat.le_refl _) HQ.out.lt HQ.out.t1 hz6 hst (P':=New noB w.heap.size) (fun k hk=>hk.elim) (fun k hk=>hk.elim) HQ.out.rd)
 clear hst HG HQ HZ HWs
 go_wp2_with (refine wpList_store_row rfl 117 _ _ rfl w.heap.size #[Zi 8,Ze,Zi 0,Zi 0,Zi 0,Ze,Zn,Zi 0,Zi 0,Zi 0,Zi 0,Zi 0,Ze,Zn,Zi 0,Zi 0,Zn,Zn,Zi 0,Zi 0] rfl rfl 117 _ hz6 (by kernel_rfl) rfl (by kernel_rfl) ?_)
 obtain⟨h1,h2⟩:=HF.out
 clear HF hz6
 generalize u5.setRow w.heap.size #[Zi 8,Ze,Zi 0,Zi 0,Zi 0,Ze,Zn,Zi 0,Zi 0,Zi 0,Zi 0,Zi 0,Ze,Zn,Zi 0,Zi 0,Zn,Zn,Zi 0,Zi 0]=W7 at h1 h2 ⊢
 exact bodyPost_ret (v:=.agg #[Zi 8,Ze,Zi 0,Zi 0,Zi 0,Ze,Zn,Zi 0,Zi 0,Zi 0,Zi 0,Zi 0,Ze,Zn,Zi 0,Zi 0,Zn,Zn,Zi 0,Zi 0]) (res_cell Tryz.results135 rfl h1.load) rfl h2
theorem simpleSet_any (w:World) (rb:Nat) (ts:List Tok) (en:Nat × Nat) (nest:Nat) (v:Value) (hr:RdB w rb ts en nest v) (hn:nest≤200) (hj:JoVar w) (hjn:5≠rb) (h0:¬nxtT ts=wLet) (h1:¬nxtT ts=wPut) (h2:¬nxtT ts=wDel) (h3:¬nxtT ts=wOut) (h4:¬nxtT ts=wAbort) (h5:¬nxtT ts=wStop) :
  Calls Tryz.prog 135 #[Zp rb] w (PrP w rb en nest (pSi0 en nest ts) (okSt (New noB w.heap.size))):=by
 obtain⟨W1,hW1⟩:=nm (w.alloc (.cells #[Zi 0,Ze,Zi 0,Zi 0,Zi 0,Ze,Zn,Zi 0,Zi 0,Zi 0,Zi 0,Zi 0,Ze,Zn,Zi 0,Zi 0,Zn,Zn,Zi 0,Zi 0] 117))
 have hb1:Below w.heap.size w W1:=by rw[hW1];exact bel_al _ _
 have hq1:=(QS.start hr hj hjn).bel hb1
 have hz1:z20 W1 w.heap.size:=by rw[hW1];exact heap_alloc_new _ _ rfl
 obtain⟨G,hG⟩:=nm (pSi0 en nest ts)
 rw[← hG]
 unfold pSi0 at hG
 rw[if_neg h0,if_neg h1,if_neg h2,if_neg h3,if_neg h4,if_neg h5] at hG
 have TK0:Hid (∀U v',RdB U rb ts en nest v'→Calls Tryz.prog 44 #[Zp rb,.string ⟨#[108,101,116]⟩] U fun e w'=>e=.returned (.bool false)∧T1 rb U w'∧∃v2,RdB w' rb ts en nest v2):=Zh fun U v' h=>by
  have HT:=takes_any U rb ts en nest v' wLet (by decide) h
  rw[decide_eq_false h0,if_neg h0] at HT
  exact HT
 have TK1:Hid (∀U v',RdB U rb ts en nest v'→Calls Tryz.prog 44 #[Zp rb,.string ⟨#[112,117,116]⟩] U fun e w'=>e=.returned (.bool false)∧T1 rb U w'∧∃v2,RdB w' rb ts en nest v2):=Zh fun U v' h=>by
  have HT:=takes_any U rb ts en nest v' wPut (by decide) h
  rw[decide_eq_false h1,if_neg h1] at HT
  exact HT
 have TK2:Hid (∀U v',RdB U rb ts en nest v'→Calls Tryz.prog 44 #[Zp rb,.string ⟨#[100,101,108]⟩] U fun e w'=>e=.returned (.bool false)∧T1 rb U w'∧∃v2,RdB w' rb ts en nest v2):=Zh fun U v' h=>by
  have HT:=takes_any U rb ts en nest v' wDel (by decide) h
  rw[decide_eq_false h2,if_neg h2] at HT
  exact HT
 have TK3:Hid (∀U v',RdB U rb ts en nest v'→Calls Tryz.prog 44 #[Zp rb,.string ⟨#[111,117,116]⟩] U fun e w'=>e=.returned (.bool false)∧T1 rb U w'∧∃v2,RdB w' rb ts en nest v2):=Zh fun U v' h=>by
  have HT:=takes_any U rb ts en nest v' wOut (by decide) h
  rw[decide_eq_false h3,if_neg h3] at HT
  exact HT
 have TK4:Hid (∀U v',RdB U rb ts en nest v'→Calls Tryz.prog 44 #[Zp rb,.string ⟨#[97,98,111,114,116]⟩] U fun e w'=>e=.returned (.bool false)∧T1 rb U w'∧∃v2,RdB w' rb ts en nest v2):=Zh fun U v' h=>by
  have HT:=takes_any U rb ts en nest v' wAbort (by decide) h
  rw[decide_eq_false h4,if_neg h4] at HT
  exact HT
 have TK5:Hid (∀U v',RdB U rb ts en nest v'→Calls Tryz.prog 44 #[Zp rb,.string ⟨#[115,116,111,112]⟩] U fun e w'=>e=.returned (.bool false)∧T1 rb U w'∧∃v2,RdB w' rb ts en nest v2):=Zh fun U v' h=>by
  have HT:=takes_any U rb ts en nest v' wStop (by decide) h
  rw[decide_eq_false h5,if_neg h5] at HT
  exact HT
 have HB:=Zh (fun U v' (hU:QS w U rb ts en nest v')=>assignment_any U rb ts en nest v' 2 hU.rd hn hU.jo hU.jn)
 rw[← hG] at HB
 have HB:Hid (∀U v',QS w U rb ts en nest v'→Calls Tryz.prog 146 #[Zp rb,Zi 2] U (PrP U rb en nest G (okSt (New noB U.heap.size)))):=HB
 have HQ:=Zh hq1
 have HZ:=Zh hz1
 have HWs:Hid (w.heap.size < W1.heap.size):=blk_lt hz1
 clear hr hj hjn hb1 hq1 hz1 hG hn h0 h1 h2 h3 h4 h5
 go_enter Tryz.func135,Tryz.ntmps135
 go_upto_region 1 with fail
 rw[← hW1]
 clear hW1
 go_wp2_with fail
 refine (TK0.out _ _ HQ.out.rd).mono ?_
 clear TK0
 rintro e u0 ⟨rfl,ht,v0,hr⟩
 have hlt:=HQ.out.lt
 have HZ:=Zh (HZ.out.t1 ht (by omega))
 have HQ:=Zh (HQ.out.call ht hr)
 clear ht hr hlt
 go_wp2_with fail
 refine (TK1.out _ _ HQ.out.rd).mono ?_
 clear TK1
 rintro e u1 ⟨rfl,ht,v1,hr⟩
 have hlt:=HQ.out.lt
 have HZ:=Zh (HZ.out.t1 ht (by omega))
 have HQ:=Zh (HQ.out.call ht hr)
 clear ht hr hlt
 go_wp2_with fail
 refine (TK2.out _ _ HQ.out.rd).mono ?_
 clear TK2
 rintro e u2 ⟨rfl,ht,v2,hr⟩
 have hlt:=HQ.out.lt
 have HZ:=Zh (HZ.out.t1 ht (by omega))
 have HQ:=Zh (HQ.out.call ht hr)
 clear ht hr hlt
 go_wp2_with fail
 refine (TK3.out _ _ HQ.out.rd).mono ?_
 clear TK3
 rintro e u3 ⟨rfl,ht,v3,hr⟩
 have hlt:=HQ.out.lt
 have HZ:=Zh (HZ.out.t1 ht (by omega))
 have HQ:=Zh (HQ.out.call ht hr)
 clear ht hr hlt
 go_wp2_with fail
 refine (TK4.out _ _ HQ.out.rd).mono ?_
 clear TK4
 rintro e u4 ⟨rfl,ht,v4,hr⟩
 have hlt:=HQ.out.lt
 have HZ:=Zh (HZ.out.t1 ht (by omega))
 have HQ:=Zh (HQ.out.call ht hr)
 clear ht hr hlt
 go_wp2_with fail
 refine (TK5.out _ _ HQ.out.rd).mono ?_
 clear TK5
 rintro e u5 ⟨rfl,ht,v5,hr⟩
 have hlt:=HQ.out.lt
 have HZ:=Zh (HZ.out.t1 ht (by omega))
 have HQ:=Zh (HQ.out.call ht hr)
 clear ht hr hlt
 have HB2:=Zh (HB.out u5 _ HQ.out)
 clear HB HWs
 go_wp2_with fail
 refine HB2.out.mono ?_
 clear HB2
 cases G with
 | er p x=>
  rintro e w6 ⟨rfl,ht⟩
  exact⟨rfl,er_fin rfl (HQ.out.t1.trans ht)⟩
 | ok y r3=>
  rintro e w6 ⟨yv,v3,rfl,hy,hr6,ht⟩
  obtain⟨k,xk,xo,xn,xl,xc,yk,yo,yn,yl,yc,l,c,s,xs,ys,xa,ya,ba,ea,xq,xqc,yq,yqc,bq,bqc,eq,eqc,rfl⟩:=okSt_20 _ _ _ _ hy
  have hlt:=HQ.out.lt
  have hq6:=HQ.out.call ht hr6
  have hz6:=HZ.out.t1 ht (by omega)
  have hzs:=blk_lt HZ.out
  have HF:=Zh (res20 rfl okSt_f (Nat.le_refl _) hlt hq6.t1 hz6 hy (P':=New noB w.heap.size) (fun k hk=>hk.imp id (fun h=>by omega)) (fun k hk=>by
   rcases hk with hk | hk
   ·exact hk.elim
   ·omega) hr6)
  clear hy hr6 ht hlt hq6 hzs HQ HZ
  go_wp2_with (refine wpList_store_row rfl 117 _ _ rfl w.heap.size #[Zi k,.string s,Zi xk,Zi xo,Zi xn,.string xs,.slice xa xq xqc,Zi xl,Zi xc,Zi yk,Zi yo,Zi yn,.string ys,.slice ya yq yqc,Zi yl,Zi yc,.slice ba bq bqc,.slice ea eq eqc,Zi l,Zi c] rfl rfl 117 _ hz6 (by kernel_rfl) rfl (by kernel_rfl) ?_)
  obtain⟨h1,h2⟩:=HF.out
  clear HF hz6
  generalize w6.setRow w.heap.size #[Zi k,.string s,Zi xk,Zi xo,Zi xn,.string xs,.slice xa xq xqc,Zi xl,Zi xc,Zi yk,Zi yo,Zi yn,.string ys,.slice ya yq yqc,Zi yl,Zi yc,.slice ba bq bqc,.slice ea eq eqc,Zi l,Zi c]=W7 at h1 h2 ⊢
  exact bodyPost_ret (v:=.agg #[Zi k,.string s,Zi xk,Zi xo,Zi xn,.string xs,.slice xa xq xqc,Zi xl,Zi xc,Zi yk,Zi yo,Zi yn,.string ys,.slice ya yq yqc,Zi yl,Zi yc,.slice ba bq bqc,.slice ea eq eqc,Zi l,Zi c]) (res_cell Tryz.results135 rfl h1.load) rfl h2
theorem simple_any (w:World) (rb:Nat) (ts:List Tok) (en:Nat × Nat) (nest:Nat) (v:Value) (hr:RdB w rb ts en nest v) (hn:nest≤200) (hj:JoVar w) (hjn:5≠rb) :
  Calls Tryz.prog 135 #[Zp rb] w (PrP w rb en nest (pSi0 en nest ts) (okSt (New noB w.heap.size))):=by
 by_cases h0:nxtT ts=wLet
 ·exact simpleLet_any w rb ts en nest v hr hn hj hjn h0
 by_cases h1:nxtT ts=wPut
 ·exact simplePut_any w rb ts en nest v hr hn hj hjn h0 h1
 by_cases h2:nxtT ts=wDel
 ·exact simpleDel_any w rb ts en nest v hr hj hjn h0 h1 h2
 by_cases h3:nxtT ts=wOut
 ·exact simpleOut_any w rb ts en nest v hr hn hj hjn h0 h1 h2 h3
 by_cases h4:nxtT ts=wAbort
 ·exact simpleAbort_any w rb ts en nest v hr hn hj hjn h0 h1 h2 h3 h4
 by_cases h5:nxtT ts=wStop
 ·exact simpleStop_any w rb ts en nest v hr hj hjn h0 h1 h2 h3 h4 h5
 exact simpleSet_any w rb ts en nest v hr hn hj hjn h0 h1 h2 h3 h4 h5
def pBl (en:Nat × Nat) (f nest:Nat) (ts:List Tok):PR (List St):=pBr en nest [123] [125] ts fun ns r1=>pSs en f ns [] r1
def pOt (en:Nat × Nat) (f nest:Nat) (ts:List Tok):PR (List St):=
 if nxtT ts=wIf then (pOpen en nest ts fun ns r3=>pCo en f ns (nxtP en ts) r3).bind fun s r4=>.ok [s] r4 else pBl en f nest ts
theorem pCo_eq (en:Nat × Nat) (f nest:Nat) (p:Nat × Nat) (ts:List Tok):pCo en (f+1) nest p ts=(pW en nest ts).bind fun x r=>(pBl en f nest r).bind fun b r2=>if nxtT r2=wElse then (pOt en f nest r2.tail).bind fun e r4=>.ok (.mk 9 [] x ex0 b e p) r4 else .ok (.mk 9 [] x ex0 b [] p) r2:=by
 simp only[pCo]
 congr 1
 funext x r
 unfold pBl
 congr 1
 funext b r2
 split
 ·unfold pOt
  split
  ·rw[PR.bind_assoc];rfl
  ·rfl
 ·rfl
theorem pSt_eq (en:Nat × Nat) (f nest:Nat) (ts:List Tok):pSt en (f+1) nest ts =
  if nxtT ts=wIf then pCo en f nest (nxtP en ts) ts.tail
  else if nxtT ts=wRepeat then (pW en nest ts.tail).bind fun x r=>(pBl en f nest r).bind fun b r2=>.ok (.mk 10 [] x ex0 b [] (nxtP en ts)) r2
  else (pSi0 en nest ts).bind fun s r=>(pMust en [59] r).bind fun _ r2=>.ok (setSt (nxtP en ts) s) r2:=by
 simp only[pSt]
 split
 ·rfl
 ·split
  ·rfl
  ·rw[pSi_eq,PR.bind_assoc]
   rfl
theorem pW_shr {en:Nat × Nat} {nest:Nat} {ts:List Tok} {n:Nat} (hn:ts.length≤n):Shr n (pW en nest ts):=(shr_all en _).1 nest ts n hn
theorem pAs_shr {en:Nat × Nat} {nest k:Nat} {p:Nat × Nat} {ts:List Tok} {n:Nat} (hn:ts.length≤n):Shr n (pAs en nest k p ts):=
 (name_shr hn).bind fun _ _ hr=>(must_shr hr).bind fun _ _ h2=>(pW_shr h2).bind fun _ _ h3=>h3
theorem pSi0_shr {en:Nat × Nat} {nest:Nat} {ts:List Tok} {n:Nat} (hn:ts.length≤n):Shr n (pSi0 en nest ts):=by
 have ht:=tail_le hn
 unfold pSi0
 split
 ·exact pAs_shr ht
 split
 ·unfold pPut
  split
  ·exact (br_shr (pW_shr (tail_le ht))).bind fun _ _ hr=>(must_shr hr).bind fun _ _ h2=>(pW_shr h2).bind fun _ _ h3=>h3
  ·exact pAs_shr ht
 split
 ·exact (name_shr ht).bind fun _ _ hr=>hr
 split
 ·exact (pW_shr ht).bind fun _ _ hr=>hr
 split
 ·exact (pW_shr ht).bind fun _ _ hr=>hr
 split
 ·exact ht
 ·exact pAs_shr hn
theorem shr_st (en:Nat × Nat):∀f,(∀nest acc ts n,ts.length≤n→Shr n (pSs en f nest acc ts))∧(∀nest ts n,ts.length≤n→Shr n (pSt en f nest ts))∧(∀nest p ts n,ts.length≤n→Shr n (pCo en f nest p ts))
 | 0=>⟨fun _ _ _ _ _=>by simp only[pSs];trivial,fun _ _ _ _=>by simp only[pSt];trivial,fun _ _ _ _ _=>by simp only[pCo];trivial⟩
 | f+1=>by
  obtain⟨iS,iT,iC⟩:=shr_st en f
  have hB:∀nest ts n,ts.length≤n→Shr n (pBl en f nest ts):=fun nest ts n hn=>br_shr (iS _ _ _ n (tail_le hn))
  refine⟨?_,?_,?_⟩
  ·intro nest acc ts n hn
   simp only[pSs]
   split
   ·exact hn
   ·exact (iT nest ts n hn).bind fun s r hr=>iS nest _ r n hr
  ·intro nest ts n hn
   rw[pSt_eq]
   split
   ·exact iC _ _ _ n (tail_le hn)
   ·split
    ·exact (pW_shr (tail_le hn)).bind fun _ _ hr=>(hB _ _ n hr).bind fun _ _ h2=>h2
    ·exact (pSi0_shr hn).bind fun _ _ hr=>(must_shr hr).bind fun _ _ h2=>h2
  ·intro nest p ts n hn
   rw[pCo_eq]
   refine (pW_shr hn).bind fun _ _ hr=>(hB _ _ n hr).bind fun _ r2 h2=>?_
   split
   ·unfold pOt
    split
    ·exact Shr.bind (n:=n) (Shr.bind (n:=n) (open_shr (iC _ _ _ n (tail_le (tail_le h2)))) fun _ _ h=>h) fun _ _ h=>h
    ·exact (hB _ _ n (tail_le h2)).bind fun _ _ h=>h
   ·exact h2
theorem pBl_shr {en:Nat × Nat} {f nest:Nat} {ts:List Tok} {n:Nat} (hn:ts.length≤n):Shr n (pBl en f nest ts):=br_shr ((shr_st en f).1 _ _ _ n (tail_le hn))
theorem must_lt {en:Nat × Nat} {s:List UInt8} {ts r:List Tok} (hs:s≠[]) {u:Unit} (h:pMust en s ts=.ok u r):r.length+1=ts.length:=by
 unfold pMust at h
 split at h
 ·rename_i he
  simp only[PR.ok.injEq] at h
  rw[← h.2]
  exact tail_lt he hs
 ·cases h
theorem pSt_lt {en:Nat × Nat} {f nest:Nat} {ts r:List Tok} {s:St} (h:pSt en f nest ts=.ok s r):r.length < ts.length:=by
 cases f with
 | zero=>simp only[pSt] at h;cases h
 | succ f=>
  rw[pSt_eq] at h
  split at h
  ·rename_i he
   have h1:=tail_lt he (by decide)
   have h2:=((shr_st en f).2.2 nest (nxtP en ts) ts.tail ts.tail.length (Nat.le_refl _)).ok h
   omega
  ·split at h
   ·rename_i he
    have h1:=tail_lt he (by decide)
    have h2:Shr ts.tail.length ((pW en nest ts.tail).bind fun x r=>(pBl en f nest r).bind fun b r2=>PR.ok (St.mk 10 [] x ex0 b [] (nxtP en ts)) r2):=(pW_shr (Nat.le_refl _)).bind fun _ _ hr=>(pBl_shr hr).bind fun _ _ h2=>h2
    have h3:=h2.ok h
    omega
   ·have h1:=pSi0_shr (en:=en) (nest:=nest) (Nat.le_refl ts.length)
    cases hc:pSi0 en nest ts with
    | er p e=>rw[hc] at h;cases h
    | ok s2 r2=>
     rw[hc] at h h1
     have h2:r2.length≤ts.length:=h1
     rw[PR.bind_ok] at h
     cases hm:pMust en [59] r2 with
     | er p e=>rw[hm] at h;cases h
     | ok u r3=>
      rw[hm] at h
      have h3:=must_lt (by decide) hm
      simp only[PR.bind_ok,PR.ok.injEq] at h
      rw[← h.2]
      omega
theorem QS.st {w U:World} {rb:Nat} {ts:List Tok} {en:Nat × Nat} {nest:Nat} {v:Value} (h:QS w U rb ts en nest v):QS U U rb ts en nest v:=QS.start h.rd h.jo h.jn
def CSs (rb:Nat) (en:Nat × Nat) (f:Nat):Prop:=∀(U:World) (pr:Nat) (ts:List Tok) (nest:Nat) (v:Value),QS U U rb ts en nest v→nest≤200→ts.length≤70000→U.cell? ⟨pr,0,none⟩=some (Zp rb)→pr≠rb→pSs en f nest [] ts≠.er (0,0) 0→Calls Tryz.prog 113 #[Zp pr] U (PrP U rb en nest (pSs en f nest [] ts) (okSs (New noB U.heap.size)))
def CBl (rb:Nat) (en:Nat × Nat) (f:Nat):Prop:=∀(U:World) (ts:List Tok) (nest:Nat) (v:Value),QS U U rb ts en nest v→nest≤200→ts.length≤70000→pBl en f nest ts≠.er (0,0) 0→Calls Tryz.prog 86 #[Zp rb] U (PrP U rb en nest (pBl en f nest ts) (okSs (New noB U.heap.size)))
def CSt (rb:Nat) (en:Nat × Nat) (f:Nat):Prop:=∀(U:World) (ts:List Tok) (nest:Nat) (v:Value),QS U U rb ts en nest v→nest≤200→ts.length≤70000→pSt en f nest ts≠.er (0,0) 0→Calls Tryz.prog 114 #[Zp rb] U (PrP U rb en nest (pSt en f nest ts) (okSt (New noB U.heap.size)))
def CCo (rb:Nat) (en:Nat × Nat) (f:Nat):Prop:=∀(U:World) (p:Nat × Nat) (ts:List Tok) (nest:Nat) (v:Value),QS U U rb ts en nest v→nest≤200→ts.length≤70000→pCo en f nest p ts≠.er (0,0) 0→Calls Tryz.prog 134 #[Zp rb,.agg #[Zi (p.1:Int),Zi (p.2:Int)]] U (PrP U rb en nest (pCo en f nest p ts) (okSt (New noB U.heap.size)))
def COt (rb:Nat) (en:Nat × Nat) (f:Nat):Prop:=∀(U:World) (ts:List Tok) (nest:Nat) (v:Value),QS U U rb ts en nest v→nest≤200→ts.length≤70000→pOt en f nest ts≠.er (0,0) 0→Calls Tryz.prog 145 #[Zp rb] U (PrP U rb en nest (pOt en f nest ts) (okSs (New noB U.heap.size)))
theorem stmtE:ElA 71 117 (.agg #[Zi 0,Ze,Zi 0,Zi 0,Zi 0,Ze,Zn,Zi 0,Zi 0,Zi 0,Zi 0,Zi 0,Ze,Zn,Zi 0,Zi 0,Zn,Zn,Zi 0,Zi 0]) 20 248:=⟨Tryz.underlying71,by kernel_rfl,rfl,by decide,by decide⟩
theorem block_any {rb:Nat} {en:Nat × Nat} {f:Nat} (hS:CSs rb en f):CBl rb en f:=by
 intro w ts nest v hq hn hl hne
 obtain⟨W1,hW1⟩:=nm (w.alloc (.cells #[Zp rb] 101))
 have hb1:Below w.heap.size w W1:=by rw[hW1];exact bel_al _ _
 have hq1:=hq.bel hb1
 have kr:W1.cell? ⟨w.heap.size,0,none⟩=some (Zp rb):=by rw[hW1];exact cellN _ _ _ 0 _ rfl
 have hlt:=hq.lt
 have HB:Hid (Calls Tryz.prog 112 #[Zp rb,.string ⟨#[123]⟩,.string ⟨#[125]⟩,.func (.func 113) #[] #[.pointer (some ⟨w.heap.size,0,none⟩)]] W1 (PrP W1 rb en nest (pBl en f nest ts) (okSs (New noB W1.heap.size)))):=Zh (
  bracketedSs_any W1 rb ts en nest v hq1.rd [123] [125] (by decide) (by decide) hn 113 (enters_of Tryz.func113 (by kernel_rfl) rfl) #[] #[.pointer (some ⟨w.heap.size,0,none⟩)] (fun ns r1=>pSs en f ns [] r1) okSs noB (fun k hk=>hk.elim) okSs_f okSs_s
   (fun hq2 hn2 V v' hV hrV=>hS V w.heap.size ts.tail (nest+1) v' (QS.start hrV (hq1.jo.t1 hV hq.jn) hq.jn) (by omega) (by rw[List.length_tail];omega) (hV.cell kr (by omega)) (by omega) (fun h=>hne (by
    unfold pBl pBr pOpen
    rw[if_pos hq2,if_neg hn2]
    simp only
    rw[h]
    rfl))))
 generalize pBl en f nest ts=G at *
 have HQ:=Zh hq1
 have HSz:=Zh hb1.size
 clear hS hq hn hl hne hb1 hq1 hlt
 go_enter Tryz.func86,Tryz.ntmps86
 go_upto_region 1 with fail
 rw[← hW1]
 clear hW1
 go_wp2_with fail
 refine HB.out.mono ?_
 clear HB kr
 cases G with
 | er p x=>
  rintro e w2 ⟨rfl,ht⟩
  exact⟨rfl,er_fin rfl (HQ.out.t1.trans ht)⟩
 | ok l r=>
  rintro e w2 ⟨lv,v2,rfl,hx,hr2,ht⟩
  obtain⟨ao,q,qc,rfl⟩:=okSs_s _ _ _ _ hx
  have HF:Hid (PrP w rb en nest (PR.ok l r) (okSs (New noB w.heap.size)) (.returned (.slice ao q qc)) w2):=Zh ⟨_,v2,rfl,okSs_f _ _ _ _ _ _ hx (fun k hk=>hk.imp id (fun h=>by have:=HSz.out;omega)) (fun _ _ _=>rfl),hr2,HQ.out.t1.trans ht⟩
  clear hx hr2 ht HQ HSz
  go_wp2_with fail
  exact bodyPost_ret (v:=.slice ao q qc) (by simp[results,Tryz.results86,go_sem]) rfl HF.out
theorem okSt_list {P:Nat→Prop} {W:World} {s:St} {A:Array Value} (h:okSt P s (.agg A) W):StsC P W [s] A.toList:=by
 obtain⟨a,he,hs⟩:=h
 obtain rfl:=Value.agg.inj he
 simpa using hs
structure SL (w wr:World) (rb pr:Nat) (en:Nat × Nat) (nest f:Nat) (G:PR (List St)) (g:Nat) (acc:List St) (cs:List Value) (ts:List Tok) (v:Value) (x:Value):Prop where
 gf:g≤f
 qs:QS w wr rb ts en nest v
 kr:wr.cell? ⟨pr,0,none⟩=some (Zp rb)
 own:wr.ownsRow w.heap.size 117 20 x acc.length cs
 sts:StsC (fun k=>w.heap.size≤k∧x.ownBlock≠some k) wr acc cs
 eq:G=pSs en g nest acc ts
 ln:acc.length+ts.length≤100000
theorem blockI_any {rb:Nat} {en:Nat × Nat} {f:Nat} (hT:∀g,g < f→CSt rb en g):CSs rb en f:=by
 intro w pr ts nest v hq hn hl kr kn hne
 have HTs:Hid (∀g,g < f→∀(U:World) (ts:List Tok) (v:Value),QS w U rb ts en nest v→ts.length≤70000→pSt en g nest ts≠.er (0,0) 0→Calls Tryz.prog 114 #[Zp rb] U (PrP U rb en nest (pSt en g nest ts) (okSt (New noB U.heap.size)))):=Zh fun g hg U ts v hU hl hn2=>hT g hg U ts nest v hU.st hn hl hn2
 obtain⟨G,hG⟩:=nm (pSs en f nest [] ts)
 rw[← hG] at hne ⊢
 have HNe:=Zh hne
 have HKn:Hid (pr≠rb∧rb < w.heap.size∧pr < w.heap.size∧ts.length≤70000):=Zh ⟨kn,hq.lt,cell_lt kr,hl⟩
 have HL:Hid (∃g acc cs us v x,(Zn:Value)=x∧us.length≤ts.length∧SL w w rb pr en nest f G g acc cs us v x):=Zh ⟨f,[],[],ts,v,_,rfl,Nat.le_refl _,Nat.le_refl _,hq,kr,⟨rfl,.inl ⟨rfl,rfl⟩⟩,.nil,hG,by simp only[List.length_nil];omega⟩
 clear hT hq hn hl kr kn hne hG
 go_enter Tryz.func113,Tryz.ntmps113
 go_wp2_with fail
 go_loopw[2] (fun s wr=>Hid (∃g acc cs us v x,s=x∧us.length≤ts.length∧SL w wr rb pr en nest f G g acc cs us v x)) (fun _ wr=>measT rb wr)
 case atStart=>exact HL
 case round=>
  clear HL
  obtain⟨g,acc,cs,us,v,x,rfl,hul,hL⟩:=hrel.out
  have hrel:=hL.own
  obtain⟨xa,xc,rfl,hx3⟩:=own_slice hL.own
  clear hx3
  have hng:pSs en g nest acc us≠.er (0,0) 0:=by rw[← hL.eq];exact HNe.out
  obtain⟨g,rfl⟩:∃g',g=g'+1:=by
   cases g with
   | zero=>exact absurd (by simp only[pSs]) hng
   | succ g=>exact⟨g,rfl⟩
  have hg:=hL.eq
  simp only[pSs] at hg
  have HM:Hid (measT rb wr=us.length):=Zh (measT_rd hL.qs.rd)
  have HC:=comes_any wr rb us en nest v [125] hL.qs.rd
  obtain⟨n,hn⟩:=nm (acc.length)
  have hown:=hL.own
  have HSt:=Zh hL.sts
  have HQ:=Zh hL.qs
  have HU:Hid (us.length≤ts.length∧acc.length+us.length≤100000∧g+1≤f):=Zh ⟨hul,hL.ln,hL.gf⟩
  have c0:=hL.kr
  rw[← hn] at hown
  rw[← hn] at HSt ⊢
  have HOw:=Zh hown
  have HNn:=Zh hn
  clear hrel hL hng hn hown hul
  by_cases hq:nxtT us=[125]
  ·rw[if_pos hq] at hg
   rw[decide_eq_true hq] at HC
   have HC:Hid (Calls Tryz.prog 78 #[Zp rb,.string ⟨#[125]⟩] wr fun e w'=>e=.returned (.bool true)∧Below wr.heap.size wr w'):=Zh HC
   have HG:=Zh hg
   clear hq hg
   go_wp2_with fail
   refine HC.out.mono ?_
   clear HC
   rintro e w5 ⟨rfl,hb⟩
   have HF:Hid (PrP w rb en nest G (okSs (New noB w.heap.size)) (.returned (.slice xa n xc)) w5):=Zh (by
    rw[HG.out]
    have ho:=ownsRow_same HOw.out (fun g hg=>hb.block g (World.ownsRow.lt HOw.out g hg).2)
    have hst:=StsC.kept (P':=New noB w.heap.size) (fun k hk=>.inr hk.1) (fun k _ hl=>hb.block k hl) HSt.out
    rw[HNn.out] at ho ⊢
    exact⟨_,v,rfl,.row _ _ cs (ownsRow_mono ho (Nat.zero_le _)) (fun g hg=>.inr (World.ownsRow.lt ho g hg).1) hst,(HQ.out.bel hb).rd,(HQ.out.bel hb).t1⟩)
   clear hb HG HQ HOw HSt HNn HM HU HNe HTs HKn c0
   go_wp2_with fail
   exact bodyPost_ret (v:=.slice xa n xc) (by simp[results,Tryz.results113,go_sem]) rfl HF.out
  ·rw[if_neg hq] at hg
   rw[decide_eq_false hq] at HC
   have HC:Hid (Calls Tryz.prog 78 #[Zp rb,.string ⟨#[125]⟩] wr fun e w'=>e=.returned (.bool false)∧Below wr.heap.size wr w'):=Zh HC
   have hp:pSt en g nest us≠.er (0,0) 0:=fun h=>HNe.out (by rw[hg,h];rfl)
   have HS:=Zh (fun U (hU:QS w U rb us en nest v)=>HTs.out g (by have:=HU.out;omega) U us v hU (by have:=HU.out;have:=HKn.out;omega) hp)
   obtain⟨M,hM⟩:=nm (pSt en g nest us)
   rw[← hM] at HS hg
   have HMm:=Zh hM
   have HG:=Zh hg
   clear hq hg hp hM
   go_wp2_with fail
   refine HC.out.mono ?_
   clear HC
   rintro e w5 ⟨rfl,hb⟩
   have c5:=(hb.cell (cell_lt c0)).trans c0
   have HQ5:=Zh (HQ.out.bel hb)
   have HS5:=Zh (HS.out w5 HQ5.out)
   have HO5:=Zh (ownsRow_same HOw.out (fun g hg=>hb.block g (World.ownsRow.lt HOw.out g hg).2))
   have HSt5:=Zh (StsC.kept (fun _ q=>q) (fun k _ hl=>hb.block k hl) HSt.out)
   clear hb HQ HOw HS HSt c0
   go_wp2_with fail
   refine HS5.out.mono ?_
   clear HS5
   cases M with
   | er p x=>
    rintro e w6 ⟨rfl,ht⟩
    exact⟨rfl,er_fin HG.out (HQ5.out.t1.trans ht)⟩
   | ok s r2=>
    rintro e w6 ⟨sv,v6,rfl,hs,hr6,ht⟩
    obtain⟨k,xk,xo,xn,xl,xcc,yk,yo,yn,yl,yc,l,c,sn,xs,ys,xaa,ya,ba,ea,xq,xqc,yq,yqc,bq,bqc,eq,eqc,rfl⟩:=okSt_20 _ _ _ _ hs
    have hlt:=HQ5.out.lt
    have hge:=HQ5.out.ge
    have hq6:=HQ5.out.call ht hr6
    have c6:=ht.cell c5 HKn.out.1
    have ho6:=ownsRow_same HO5.out (fun g hg=>ht.block g (World.ownsRow.lt HO5.out g hg).2 (by have:=(World.ownsRow.lt HO5.out g hg).1;omega))
    have hst6:=StsC.kept (fun _ q=>q) (fun k hk hl=>ht.block k hl (by omega)) HSt5.out
    have HAp:=Zh (row_app stmtE ho6 [Zi k,.string sn,Zi xk,Zi xo,Zi xn,.string xs,.slice xaa xq xqc,Zi xl,Zi xcc,Zi yk,Zi yo,Zi yn,.string ys,.slice ya yq yqc,Zi yl,Zi yc,.slice ba bq bqc,.slice ea eq eqc,Zi l,Zi c] rfl (by intro u hu;simp at hu;rcases hu with rfl | rfl | rfl | rfl | rfl | rfl | rfl | rfl | rfl | rfl | rfl | rfl | rfl | rfl | rfl | rfl | rfl | rfl | rfl | rfl <;> rfl) (by have:=HU.out;have:=HNn.out;omega) hq6.ge)
    have hs2:=okSt_list hs
    have HSts:Hid (∀(w7:World) (v':Value),(∀k,k < w6.heap.size→(.slice xa n xc:Value).ownBlock≠some k→w7.heap[k]? = w6.heap[k]?)→(v'.ownBlock=(.slice xa n xc:Value).ownBlock∨∀k,v'.ownBlock=some k→w6.heap.size≤k)→StsC (fun k=>w.heap.size≤k∧v'.ownBlock≠some k) w7 (acc ++ [s]) (cs ++ [Zi k,.string sn,Zi xk,Zi xo,Zi xn,.string xs,.slice xaa xq xqc,Zi xl,Zi xcc,Zi yk,Zi yo,Zi yn,.string ys,.slice ya yq yqc,Zi yl,Zi yc,.slice ba bq bqc,.slice ea eq eqc,Zi l,Zi c])):=Zh fun w7 v' ho hb=>by
     have hv:∀k,k < w6.heap.size→(.slice xa n xc:Value).ownBlock≠some k→v'.ownBlock≠some k:=fun k hk hne he=>by
      rcases hb with hb | hb
      ·exact hne (hb▸he)
      ·have:=hb k he;omega
     refine StsC.app (StsC.kept (fun k hk=>⟨hk.1.1,hv k hk.2 hk.1.2⟩) (fun k hk hl=>ho k hl hk.1.2) hst6.lt) (StsC.kept (fun k hk=>?_) (fun k hk hl=>ho k hl ?_) hs2.lt)
     ·have hk1:w5.heap.size≤k:=hk.1.elim (fun h=>h.elim) id
      exact⟨by omega,hv k hk.2 (fun he=>by have:=(World.ownsRow.lt HO5.out k he).2;omega)⟩
     ·have hk1:w5.heap.size≤k:=hk.1.elim (fun h=>h.elim) id
      exact fun he=>by have:=(World.ownsRow.lt HO5.out k he).2;omega
    have HQ6:=Zh hq6
    have hgl:=HG.out
    rw[PR.bind_ok] at hgl
    have HG2:=Zh hgl
    have HL2:Hid (r2.length < us.length):=Zh (pSt_lt HMm.out.symm)
    have HC6:=Zh c6
    clear hs hs2 hr6 ht ho6 hst6 hq6 hlt hge HQ5 HO5 HSt5 HG HMm hgl c5 c6
    go_wp2_with (at_builtin;refine wpL_appR rfl _ _ 71 rfl (.slice xa n xc) (.slice (some ⟨w6.heap.size,0,none⟩) 1 1) rfl rfl HAp.out ?_;rintro v2 w7 hRA)
    obtain⟨va,vc,rfl⟩:=hRA.shp
    have HRA:=Zh hRA
    have hql:=HQ6.out.low HRA.out.bel
    have HLe:Hid (∃g acc cs us v x,(.slice va (n+1) vc:Value)=x∧us.length≤ts.length∧SL w w7 rb pr en nest f G g acc cs us v x):=Zh ⟨g,acc ++ [s],_,r2,v6,_,rfl,by have:=HU.out;have:=HL2.out;omega,by have:=HU.out;omega,hql,by
     by_cases hpw:pr < w.heap.size
     ·exact (HRA.out.bel.cell (p:=⟨pr,0,none⟩) hpw).trans HC6.out
     ·exact absurd HKn.out.2.2.1 hpw,by
     have h:=HRA.out.own
     rw[HNn.out] at h ⊢
     rw[List.length_append,List.length_singleton]
     exact h,HSts.out w7 _ HRA.out.oth HRA.out.blk,HG2.out,by
     have h1:=HU.out;have h2:=HL2.out;have h3:=HNn.out
     rw[List.length_append,List.length_singleton];omega⟩
    have HMe:Hid (measT rb w7 < measT rb wr):=Zh (by rw[HM.out,measT_rd hql.rd];exact HL2.out)
    clear hRA HRA HAp HQ6 HG2 HL2 HNn HM HSts HU HC6 hql
    go_wp2_with fail
    go_roundw
    case rel=>exact HLe
    case measure=>exact HMe.out
end Go.Proofs.YtlfooogmoigpfaaGreatDoor
