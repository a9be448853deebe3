import Derived.Test.YtlfooogmoigpfaaGreatDoorQaj
import Derived.Deep.WholeRow
import Derived.Test.YtlfooogmoigpfaaGreatDoorQaa
set_option maxRecDepth 100000
set_option maxHeartbeats 8000000
namespace Go.Proofs.YtlfooogmoigpfaaGreatDoor
open Go.RowKit Go.Sort Go.Shelf
def pOI (en:Nat × Nat) (f ns:Nat) (p:Nat × Nat) (r3:List Tok):PR (List St):=(pCo en f ns p r3).bind fun s r4=>.ok [s] r4
theorem othI_any {rb:Nat} {en:Nat × Nat} {f:Nat} (hC:CCo rb en f) (w:World) (pr pa:Nat) (p:Nat × Nat) (ts:List Tok) (nest:Nat) (v:Value) (hq:QS w w rb ts en nest v) (hn:nest≤200) (hl:ts.length≤70000) (kr:w.cell? ⟨pr,0,none⟩=some (Zp rb)) (k0:w.cell? ⟨pa,0,none⟩=some (Zi (p.1:Int))) (k1:w.cell? ⟨pa,1,none⟩=some (Zi (p.2:Int))) (hne:pOI en f nest p ts≠.er (0,0) 0) :
  Calls Tryz.prog 153 #[Zp pr,Zp pa] w (PrP w rb en nest (pOI en f nest p ts) (okSs (New noB w.heap.size))):=by
 obtain⟨G,hG⟩:=nm (pOI en f nest p ts)
 have HC:=Zh (hC w p ts nest v hq hn hl (fun h=>hne (by unfold pOI;rw[h];rfl)))
 rw[← hG] at hne ⊢
 unfold pOI at hG
 generalize pCo en f nest p ts=M at *
 have HG:=Zh hG
 have HQ:=Zh hq
 obtain⟨pl,pc⟩:=p
 simp only at k0 k1 HC
 clear hC hq hn hl hne hG
 go_enter Tryz.func153,Tryz.ntmps153
 go_wp2_with fail
 refine HC.out.mono ?_
 clear HC kr k0 k1
 cases M with
 | er p x=>
  rintro e w2 ⟨rfl,ht⟩
  exact⟨rfl,er_fin HG.out (HQ.out.t1.trans ht)⟩
 | ok s r=>
  rintro e w2 ⟨sv,v2,rfl,hs,hr2,ht⟩
  obtain⟨k,xk,xo,xn,xl,xcc,yk,yo,yn,yl,yc,l,c,sn,xs,ys,xaa,ya,ba,ea,xq,xqc,yq,yqc,bq,bqc,eq,eqc,rfl⟩:=okSt_20 _ _ _ _ hs
  have hs2:=okSt_list hs
  have hal:=bel_al w2 (.cells #[Zi k,.string sn,Zi xk,Zi xo,Zi xn,.string xs,.slice xaa xq xqc,Zi xl,Zi xcc,Zi yk,Zi yo,Zi yn,.string ys,.slice ya yq yqc,Zi yl,Zi yc,.slice ba bq bqc,.slice ea eq eqc,Zi l,Zi c] 117)
  have hrow:=row_lit w2 117 20 [Zi k,.string sn,Zi xk,Zi xo,Zi xn,.string xs,.slice xaa xq xqc,Zi xl,Zi xcc,Zi yk,Zi yo,Zi yn,.string ys,.slice ya yq yqc,Zi yl,Zi yc,.slice ba bq bqc,.slice ea eq eqc,Zi l,Zi c] rfl
  have hq2:=(HQ.out.call ht hr2).bel hal
  have HF:Hid (PrP w rb en nest G (okSs (New noB w.heap.size)) (.returned (.slice (some ⟨w2.heap.size,0,none⟩) 1 1)) (w2.alloc (.cells #[Zi k,.string sn,Zi xk,Zi xo,Zi xn,.string xs,.slice xaa xq xqc,Zi xl,Zi xcc,Zi yk,Zi yo,Zi yn,.string ys,.slice ya yq yqc,Zi yl,Zi yc,.slice ba bq bqc,.slice ea eq eqc,Zi l,Zi c] 117))):=Zh (by
   rw[HG.out]
   refine⟨_,v2,rfl,.row _ _ _ (ownsRow_mono hrow (Nat.zero_le _)) (fun g hg=>?_) (StsC.kept (fun _ q=>q) (fun k _ hl=>hal.block k hl) hs2),hq2.rd,hq2.t1⟩
   exact .inr (Nat.le_trans ht.size (World.ownsRow.lt hrow g hg).1))
  clear hs hs2 hr2 ht hal hrow hq2 HQ HG
  go_wp2_with fail
  exact bodyPost_ret (v:=.slice (some ⟨w2.heap.size,0,none⟩) 1 1) (by simp[results,Tryz.results153,go_sem]) rfl HF.out
theorem otherwise_any {rb:Nat} {en:Nat × Nat} {f:Nat} (hC:CCo rb en f) (hB:CBl rb en f):COt rb en f:=by
 intro w ts nest v hq hn hl hne
 obtain⟨W1,hW1⟩:=nm (w.alloc (.cells #[Zp rb] 101))
 have hb1:Below w.heap.size w W1:=by rw[hW1];exact bel_al _ _
 have hq1:=hq.bel hb1
 have kr:W1.cell? ⟨w.heap.size,0,none⟩=some (Zp rb):=by rw[hW1];exact cellN _ _ _ 0 _ rfl
 have hlt:=hq.lt
 have HI:=comes_any W1 rb ts en nest v wIf hq1.rd
 obtain⟨G,hG⟩:=nm (pOt en f nest ts)
 rw[← hG] at hne ⊢
 unfold pOt at hG
 have HWs:Hid (w.heap.size < W1.heap.size):=Zh (cell_lt kr)
 by_cases hi:nxtT ts=wIf
 ·rw[if_pos hi,open_bind] at hG
  rw[decide_eq_true hi] at HI
  have HI:Hid (Calls Tryz.prog 78 #[Zp rb,.string ⟨#[105,102]⟩] W1 fun e w'=>e=.returned (.bool true)∧Below W1.heap.size W1 w'):=Zh HI
  have hts:ts≠[]:=fun h=>by rw[h] at hi;cases hi
  have HN:=Zh (fun U (hU:QS w U rb ts en nest v)=>next_any U rb ts en nest v hU.rd)
  have hO:=fun (U:World) (p:Nat × Nat) (hp:p=nxtP en ts) (pa:Nat) (hU:QS w U rb ts en nest v) (kU:U.cell? ⟨w.heap.size,0,none⟩=some (Zp rb)) (k0:U.cell? ⟨pa,0,none⟩=some (Zi (p.1:Int))) (k1:U.cell? ⟨pa,1,none⟩=some (Zi (p.2:Int))) (hpa:pa≠rb)=>
   openedSs_any U rb ts en nest v hU.rd hts hn 153 (enters_of Tryz.func153 (by kernel_rfl) rfl) #[] #[.pointer (some ⟨w.heap.size,0,none⟩),Zp pa] (fun ns r3=>pOI en f ns p r3) okSs noB (fun k hk=>hk.elim) okSs_f okSs_s
    (fun hn2 V v' hV hrV=>othI_any hC V w.heap.size pa p ts.tail (nest+1) v' (QS.start hrV (hU.jo.t1 hV hU.jn) hU.jn) (by omega) (by rw[List.length_tail];omega) (hV.cell kU (by omega)) (hV.cell k0 hpa) (hV.cell k1 hpa) (fun h=>hne (by
     rw[hG]
     unfold pOpen
     rw[if_neg hn2]
     rw[hp] at h
     exact h)))
  have hG2:G=pOpen en nest ts (fun ns r3=>pOI en f ns (nxtP en ts) r3):=hG
  obtain⟨p,hp⟩:=nm (nxtP en ts)
  rw[← hp] at HN hG2
  have HO:=Zh (fun U=>hO U p hp)
  obtain⟨pl,pc⟩:=p
  generalize nxtN ts=nv at *
  generalize nxtK ts=kd at *
  obtain⟨u,hu⟩:=nm (S (nxtT ts))
  have HN:Hid (∀U,QS w U rb ts en nest v→Calls Tryz.prog 106 #[Zp rb] U fun e w'=>e=.returned (.agg #[Zi (kd:Int),.string u,Zi nv,Zi (pl:Int),Zi (pc:Int)])∧Below U.heap.size U w'):=by rw[hu];exact HN
  have hfl:∀w:World,(Instr.field 83 (.agg #[Zi (kd:Int),.string u,Zi nv,Zi (pl:Int),Zi (pc:Int)]) 3).run Tryz.prog w=.ok (.agg #[Zi (pl:Int),Zi (pc:Int)]) w:=fun _=>by kernel_rfl
  have HG:=Zh hG2
  have HQ:=Zh hq1
  have HLt:Hid (rb < w.heap.size):=hlt
  clear hC hB hq hn hl hne hb1 hq1 hlt hi hG hts hO hG2 hp hu
  go_enter Tryz.func145,Tryz.ntmps145
  go_upto_region 1 with fail
  rw[← hW1]
  clear hW1
  go_wp2_with fail
  refine HI.out.mono ?_
  clear HI
  rintro e w2 ⟨rfl,hb⟩
  have k2:=(hb.cell (cell_lt kr)).trans kr
  have HQ2:=Zh (HQ.out.bel hb)
  have HN2:=Zh (HN.out w2 HQ2.out)
  have HS2:=Zh hb.size
  clear HQ HN hb kr
  go_wp2_with fail
  refine HN2.out.mono ?_
  clear HN2
  rintro e w3 ⟨rfl,hb⟩
  obtain⟨w4,hw4⟩:=nm (w3.alloc (.cells #[Zi (pl:Int),Zi (pc:Int)] 43))
  obtain⟨B,hB⟩:=nm (w3.heap.size)
  have hb4:Below w3.heap.size w3 w4:=by rw[hw4];exact bel_al _ _
  have hb24:=hb.trans (hb4.mono hb.size)
  have s0:w4.cell? ⟨B,0,none⟩=some (Zi (pl:Int)):=by rw[hw4,hB];exact cellN _ _ _ 0 _ rfl
  have s1:w4.cell? ⟨B,1,none⟩=some (Zi (pc:Int)):=by rw[hw4,hB];exact cellN _ _ _ 1 _ rfl
  have k4:=(hb24.cell (cell_lt k2)).trans k2
  have HQ4:=Zh (HQ2.out.bel hb24)
  have HO4:=Zh (HO.out w4 B HQ4.out k4 s0 s1 (by have:=HLt.out;have:=HWs.out;have:=HS2.out;have:=hb.size;omega))
  have hg:=HG.out
  rw[← hg] at HO4
  clear hb hb4 hb24 s0 s1 HQ2 HO k2 hg HG HS2 HWs HLt
  go_upto_region 4 with fail
  rw[← hw4,← hB]
  clear hw4 hB hfl
  go_wp2_with fail
  refine HO4.out.mono ?_
  clear HO4 k4
  cases G with
  | er p x=>
   rintro e w5 ⟨rfl,ht⟩
   exact⟨rfl,er_fin rfl (HQ4.out.t1.trans ht)⟩
  | ok l r=>
   rintro e w5 ⟨lv,v5,rfl,hx,hr5,ht⟩
   obtain⟨ao,q,qc,rfl⟩:=okSs_s _ _ _ _ hx
   have HF:Hid (PrP w rb en nest (PR.ok l r) (okSs (New noB w.heap.size)) (.returned (.slice ao q qc)) w5):=Zh ⟨_,v5,rfl,okSs_f _ _ _ _ _ _ hx (fun k hk=>hk.imp id (fun h=>by have:=HQ4.out.ge;omega)) (fun _ _ _=>rfl),hr5,HQ4.out.t1.trans ht⟩
   clear hx hr5 ht HQ4
   go_wp2_with fail
   exact bodyPost_ret (v:=.slice ao q qc) (by simp[results,Tryz.results145,go_sem]) rfl HF.out
 ·rw[if_neg hi] at hG
  rw[decide_eq_false hi] at HI
  have HI:Hid (Calls Tryz.prog 78 #[Zp rb,.string ⟨#[105,102]⟩] W1 fun e w'=>e=.returned (.bool false)∧Below W1.heap.size W1 w'):=Zh HI
  have HBl:=Zh (fun U (hU:QS w U rb ts en nest v)=>hB U ts nest v hU.st hn hl (by rw[← hG];exact hne))
  rw[← hG] at HBl
  have HQ:=Zh hq1
  clear hC hB hq hn hl hne hb1 hq1 hlt hi hG HWs
  go_enter Tryz.func145,Tryz.ntmps145
  go_upto_region 1 with fail
  rw[← hW1]
  clear hW1
  go_wp2_with fail
  refine HI.out.mono ?_
  clear HI
  rintro e w2 ⟨rfl,hb⟩
  have k2:=(hb.cell (cell_lt kr)).trans kr
  have HQ2:=Zh (HQ.out.bel hb)
  have HB2:=Zh (HBl.out w2 HQ2.out)
  clear HQ HBl hb kr
  go_wp2_with fail
  refine HB2.out.mono ?_
  clear HB2 k2
  cases G with
  | er p x=>
   rintro e w5 ⟨rfl,ht⟩
   exact⟨rfl,er_fin rfl (HQ2.out.t1.trans ht)⟩
  | ok l r=>
   rintro e w5 ⟨lv,v5,rfl,hx,hr5,ht⟩
   obtain⟨ao,q,qc,rfl⟩:=okSs_s _ _ _ _ hx
   have HF:Hid (PrP w rb en nest (PR.ok l r) (okSs (New noB w.heap.size)) (.returned (.slice ao q qc)) w5):=Zh ⟨_,v5,rfl,okSs_f _ _ _ _ _ _ hx (fun k hk=>hk.imp id (fun h=>by have:=HQ2.out.ge;omega)) (fun _ _ _=>rfl),hr5,HQ2.out.t1.trans ht⟩
   clear hx hr5 ht HQ2
   go_wp2_with fail
   exact bodyPost_ret (v:=.slice ao q qc) (by simp[results,Tryz.results145,go_sem]) rfl HF.out
theorem Row20.setX {W:World} {R:Nat} {v0 v1 v2 v3 v4 v5 v6 v7 v8 v9 v10 v11 v12 v13 v14 v15 v16 v17 v18 v19:Value} (h:Row20 W R v0 v1 v2 v3 v4 v5 v6 v7 v8 v9 v10 v11 v12 v13 v14 v15 v16 v17 v18 v19) (a0 a1 a2 a3 a4 a5 a6:Value):Row20 (((((((W.setCell ⟨R,2,none⟩ a0).setCell ⟨R,3,none⟩ a1).setCell ⟨R,4,none⟩ a2).setCell ⟨R,5,none⟩ a3).setCell ⟨R,6,none⟩ a4).setCell ⟨R,7,none⟩ a5).setCell ⟨R,8,none⟩ a6) R v0 v1 a0 a1 a2 a3 a4 a5 a6 v9 v10 v11 v12 v13 v14 v15 v16 v17 v18 v19:=by
 have h0:Row20 (W.setCell ⟨R,2,none⟩ a0) R v0 v1 a0 v3 v4 v5 v6 v7 v8 v9 v10 v11 v12 v13 v14 v15 v16 v17 v18 v19:=heap_setCell_same _ R 2 _ _ a0 h
 generalize W.setCell ⟨R,2,none⟩ a0=V0 at *
 have h1:Row20 (V0.setCell ⟨R,3,none⟩ a1) R v0 v1 a0 a1 v4 v5 v6 v7 v8 v9 v10 v11 v12 v13 v14 v15 v16 v17 v18 v19:=heap_setCell_same _ R 3 _ _ a1 h0
 generalize V0.setCell ⟨R,3,none⟩ a1=V1 at *
 have h2:Row20 (V1.setCell ⟨R,4,none⟩ a2) R v0 v1 a0 a1 a2 v5 v6 v7 v8 v9 v10 v11 v12 v13 v14 v15 v16 v17 v18 v19:=heap_setCell_same _ R 4 _ _ a2 h1
 generalize V1.setCell ⟨R,4,none⟩ a2=V2 at *
 have h3:Row20 (V2.setCell ⟨R,5,none⟩ a3) R v0 v1 a0 a1 a2 a3 v6 v7 v8 v9 v10 v11 v12 v13 v14 v15 v16 v17 v18 v19:=heap_setCell_same _ R 5 _ _ a3 h2
 generalize V2.setCell ⟨R,5,none⟩ a3=V3 at *
 have h4:Row20 (V3.setCell ⟨R,6,none⟩ a4) R v0 v1 a0 a1 a2 a3 a4 v7 v8 v9 v10 v11 v12 v13 v14 v15 v16 v17 v18 v19:=heap_setCell_same _ R 6 _ _ a4 h3
 generalize V3.setCell ⟨R,6,none⟩ a4=V4 at *
 have h5:Row20 (V4.setCell ⟨R,7,none⟩ a5) R v0 v1 a0 a1 a2 a3 a4 a5 v8 v9 v10 v11 v12 v13 v14 v15 v16 v17 v18 v19:=heap_setCell_same _ R 7 _ _ a5 h4
 generalize V4.setCell ⟨R,7,none⟩ a5=V5 at *
 have h6:Row20 (V5.setCell ⟨R,8,none⟩ a6) R v0 v1 a0 a1 a2 a3 a4 a5 a6 v9 v10 v11 v12 v13 v14 v15 v16 v17 v18 v19:=heap_setCell_same _ R 8 _ _ a6 h5
 generalize V5.setCell ⟨R,8,none⟩ a6=V6 at *
 exact h6
theorem setX_below {C:Nat} {W0 W:World} (hb:Below C W0 W) {R:Nat} (hR:C≤R) (a0 a1 a2 a3 a4 a5 a6:Value):Below C W0 (((((((W.setCell ⟨R,2,none⟩ a0).setCell ⟨R,3,none⟩ a1).setCell ⟨R,4,none⟩ a2).setCell ⟨R,5,none⟩ a3).setCell ⟨R,6,none⟩ a4).setCell ⟨R,7,none⟩ a5).setCell ⟨R,8,none⟩ a6):=
 (((((((hb.setCell (p:=⟨R,2,none⟩) hR a0).setCell (p:=⟨R,3,none⟩) hR a1).setCell (p:=⟨R,4,none⟩) hR a2).setCell (p:=⟨R,5,none⟩) hR a3).setCell (p:=⟨R,6,none⟩) hR a4).setCell (p:=⟨R,7,none⟩) hR a5).setCell (p:=⟨R,8,none⟩) hR a6)
theorem setX_other {W:World} {R k:Nat} (hk:k≠R) (a0 a1 a2 a3 a4 a5 a6:Value):((((((((W.setCell ⟨R,2,none⟩ a0).setCell ⟨R,3,none⟩ a1).setCell ⟨R,4,none⟩ a2).setCell ⟨R,5,none⟩ a3).setCell ⟨R,6,none⟩ a4).setCell ⟨R,7,none⟩ a5).setCell ⟨R,8,none⟩ a6)).heap[k]? = W.heap[k]?:=by
 rw[heap_setCell_other _ _ _ _ hk,heap_setCell_other _ _ _ _ hk,heap_setCell_other _ _ _ _ hk,heap_setCell_other _ _ _ _ hk,heap_setCell_other _ _ _ _ hk,heap_setCell_other _ _ _ _ hk,heap_setCell_other _ _ _ _ hk]
theorem Row20.range {W:World} {R:Nat} {v0 v1 v2 v3 v4 v5 v6 v7 v8 v9 v10 v11 v12 v13 v14 v15 v16 v17 v18 v19:Value} (h:Row20 W R v0 v1 v2 v3 v4 v5 v6 v7 v8 v9 v10 v11 v12 v13 v14 v15 v16 v17 v18 v19):W.rangeAt R 0 [v0,v1,v2,v3,v4,v5,v6,v7,v8,v9,v10,v11,v12,v13,v14,v15,v16,v17,v18,v19]:=fun j u hu=>by
 unfold Row20 at h
 rw[Nat.zero_add]
 simp only[World.cell?,h]
 simpa using hu
theorem okE_blk {P:Nat→Prop} {x:Ex} {v:Value} {W W':World} {B:Nat} (h:okE P x v W) (hs:∀k,k≠B→W'.heap[k]? = W.heap[k]?) (hn:∀k,P k→k≠B):okE P x v W':=okE_f _ _ _ _ _ _ h (fun _ q=>q) (fun k hk _=>hs k (hn k hk))
theorem condition_any {rb:Nat} {en:Nat × Nat} {f:Nat} (hB:CBl rb en f) (hO:COt rb en f):CCo rb en (f+1):=by
 intro w p ts nest v hq hn hl hne
 obtain⟨pl,pc⟩:=p
 obtain⟨wa,hwa⟩:=nm (w.alloc (.cells #[Zi (pl:Int),Zi (pc:Int)] 43))
 obtain⟨wb,hwb⟩:=nm (wa.alloc (.cells #[Zi 0,Ze,Zi 0,Zi 0,Zi 0,Ze,Zn,Zi 0,Zi 0,Zi 0,Zi 0,Zi 0,Ze,Zn,Zi 0,Zi 0,Zn,Zn,Zi 0,Zi 0] 117))
 obtain⟨W1,hW1⟩:=nm (wb.alloc (.cells #[Zi 9,Ze,Zi 0,Zi 0,Zi 0,Ze,Zn,Zi 0,Zi 0,Zi 0,Zi 0,Zi 0,Ze,Zn,Zi 0,Zi 0,Zn,Zn,Zi (pl:Int),Zi (pc:Int)] 117))
 have sa:wa.heap.size=w.heap.size+1:=by rw[hwa];simp
 obtain⟨wz,hwz⟩:=nm (wb.alloc (.cells #[Zi 0,Ze,Zi 0,Zi 0,Zi 0,Ze,Zn,Zi 0,Zi 0,Zi 0,Zi 0,Zi 0,Ze,Zn,Zi 0,Zi 0,Zn,Zn,Zi 0,Zi 0] 117))
 have sb:wb.heap.size=w.heap.size+1+1:=by rw[hwb];simp[sa]
 have hzz:wz.heap[w.heap.size+1+1]? = some (.cells #[Zi 0,Ze,Zi 0,Zi 0,Zi 0,Ze,Zn,Zi 0,Zi 0,Zi 0,Zi 0,Zi 0,Ze,Zn,Zi 0,Zi 0,Zn,Zn,Zi 0,Zi 0] 117 (0,0)):=by rw[hwz,← sb];exact heap_alloc_new _ _ rfl
 have hW2:wz.setRow (w.heap.size+1+1) #[Zi 9,Ze,Zi 0,Zi 0,Zi 0,Ze,Zn,Zi 0,Zi 0,Zi 0,Zi 0,Zi 0,Ze,Zn,Zi 0,Zi 0,Zn,Zn,Zi (pl:Int),Zi (pc:Int)]=W1:=by rw[hwz,← sb,hW1];exact World.setRow_alloc_new _ _ _ _
 have s1:W1.heap.size=w.heap.size+1+1+1:=by rw[hW1];simp[sb]
 have ba:Below w.heap.size w wa:=by rw[hwa];exact bel_al _ _
 have bb:Below wa.heap.size wa wb:=by rw[hwb];exact bel_al _ _
 have b1:Below wb.heap.size wb W1:=by rw[hW1];exact bel_al _ _
 have bb1:Below wa.heap.size wa W1:=bb.trans (b1.mono bb.size)
 have ba1:Below w.heap.size w W1:=ba.trans (bb1.mono ba.size)
 have k0:wb.cell? ⟨w.heap.size,0,none⟩=some (Zi (pl:Int)):=(bb.cell (p:=⟨w.heap.size,0,none⟩) (by show w.heap.size < wa.heap.size;omega)).trans (by rw[hwa];exact cellN _ _ _ 0 _ rfl)
 have k1:wb.cell? ⟨w.heap.size,1,none⟩=some (Zi (pc:Int)):=(bb.cell (p:=⟨w.heap.size,1,none⟩) (by show w.heap.size < wa.heap.size;omega)).trans (by rw[hwa];exact cellN _ _ _ 1 _ rfl)
 have hz1:z20 W1 (w.heap.size+1):=by
  have h:z20 wb (w.heap.size+1):=by rw[hwb,← sa];exact heap_alloc_new _ _ rfl
  exact h.kept b1
 have hr1:Row20 W1 (w.heap.size+1+1) (Zi 9) (Ze) (Zi 0) (Zi 0) (Zi 0) (Ze) (Zn) (Zi 0) (Zi 0) (Zi 0) (Zi 0) (Zi 0) (Ze) (Zn) (Zi 0) (Zi 0) (Zn) (Zn) (Zi (pl:Int)) (Zi (pc:Int)):=by rw[hW1,← sb];exact heap_alloc_new _ _ rfl
 have hq1:=hq.bel ba1
 obtain⟨G,hG⟩:=nm (pCo en (f+1) nest (pl,pc) ts)
 rw[← hG] at hne ⊢
 rw[pCo_eq] at hG
 have HE:=Zh (hq1.expr hn)
 have HSh:=Zh (pW_shr (en:=en) (nest:=nest) (Nat.le_refl ts.length))
 generalize pW en nest ts=M at *
 have HG:=Zh hG
 have HNe:=Zh hne
 have HQ:=Zh hq1
 have HZ:=Zh hz1
 have HR:=Zh hr1
 have HBg:Hid (W1.heap.size=w.heap.size+1+1+1∧rb < w.heap.size∧ts.length≤70000):=Zh ⟨by omega,hq.lt,hl⟩
 have HB:=Zh (fun U r v' (h:QS w U rb r en nest v') (hl:r.length≤70000) (hne:pBl en f nest r≠.er (0,0) 0)=>hB U r nest v' h.st hn hl hne)
 have HO:=Zh (fun U r v' (h:QS w U rb r en nest v') (hl:r.length≤70000) (hne:pOt en f nest r≠.er (0,0) 0)=>hO U r nest v' h.st hn hl hne)
 clear hq hn hl hne hG hq1 hz1 hr1 ba bb b1 bb1 ba1 sa s1 hB hO
 go_enter Tryz.func134,Tryz.ntmps134
 go_upto_region 1 with fail
 rw[← hwa,← hwb]
 clear hwa hwb hW1
 go_upto_region 2 with (first | (rw[← hwz];refine wpList_store_row rfl 117 _ _ rfl (w.heap.size+1+1) #[Zi 9,Ze,Zi 0,Zi 0,Zi 0,Ze,Zn,Zi 0,Zi 0,Zi 0,Zi 0,Zi 0,Ze,Zn,Zi 0,Zi 0,Zn,Zn,Zi (pl:Int),Zi (pc:Int)] rfl rfl 117 _ hzz (by kernel_rfl) rfl (by kernel_rfl) ?_))
 rw[hW2]
 clear hW2 k0 k1 sb hzz hwz
 go_wp2_with fail
 refine HE.out.mono ?_
 clear HE
 cases M with
 | er p x=>
  rintro e w2 ⟨rfl,ht⟩
  exact⟨rfl,er_fin HG.out (HQ.out.t1.trans ht)⟩
 | ok x r=>
  rintro e w2 ⟨xv,v2,rfl,hx,hr2,ht⟩
  obtain⟨xk,xo,xn,xl,xc,xs,xa,xq,xqc,rfl⟩:=okE_7 _ _ _ _ hx
  have hbg:=HBg.out
  have hrw:=HR.out.t1 ht (by omega)
  have hzw:=HZ.out.t1 ht (by omega)
  have hqw:=HQ.out.call ht hr2
  obtain⟨w3,hw3⟩:=nm (((((((w2.setCell ⟨(w.heap.size+1+1),2,none⟩ (Zi xk)).setCell ⟨(w.heap.size+1+1),3,none⟩ (Zi xo)).setCell ⟨(w.heap.size+1+1),4,none⟩ (Zi xn)).setCell ⟨(w.heap.size+1+1),5,none⟩ (.string xs)).setCell ⟨(w.heap.size+1+1),6,none⟩ (.slice xa xq xqc)).setCell ⟨(w.heap.size+1+1),7,none⟩ (Zi xl)).setCell ⟨(w.heap.size+1+1),8,none⟩ (Zi xc))
  have HR3:Hid (Row20 w3 (w.heap.size+1+1) (Zi 9) (Ze) (Zi xk) (Zi xo) (Zi xn) (.string xs) (.slice xa xq xqc) (Zi xl) (Zi xc) (Zi 0) (Zi 0) (Zi 0) (Ze) (Zn) (Zi 0) (Zi 0) (Zn) (Zn) (Zi (pl:Int)) (Zi (pc:Int))):=Zh (by rw[hw3];exact hrw.setX _ _ _ _ _ _ _)
  have hbe:Below w.heap.size w2 w3:=by rw[hw3];exact setX_below (Below.refl _ _) (by omega) _ _ _ _ _ _ _
  have hoth:∀k,k≠(w.heap.size+1+1)→w3.heap[k]? = w2.heap[k]?:=fun k hk=>by rw[hw3];exact setX_other hk _ _ _ _ _ _ _
  have HQ3:=Zh (hqw.low hbe)
  have HZ3:Hid (z20 w3 (w.heap.size+1)):=Zh ((hoth _ (by omega)).trans hzw)
  have HX3:=Zh (okE_mono (P':=fun k=>(w.heap.size+1+1) < k) (okE_blk hx hoth (fun k hk=>by
   rcases hk with hk | hk
   ·exact hk.elim
   ·omega)) (fun k hk _=>by
   rcases hk with hk | hk
   ·exact hk.elim
   ·omega))
  have HSz3:Hid ((w.heap.size+1+1) < w3.heap.size):=Zh (blk_lt HR3.out)
  have hlr:r.length≤ts.length:=HSh.out.ok rfl
  have hg:=HG.out
  rw[PR.bind_ok] at hg
  have hp:pBl en f nest r≠.er (0,0) 0:=fun h=>HNe.out (by rw[hg,h];rfl)
  have HB3:=Zh (HB.out w3 r v2 HQ3.out (by omega) hp)
  have HSh2:=Zh (pBl_shr (en:=en) (f:=f) (nest:=nest) (Nat.le_refl r.length))
  have HLr:Hid (r.length≤70000):=Zh (by omega)
  generalize pBl en f nest r=M at *
  have HG2:=Zh hg
  obtain⟨_,_,f2,f3,f4,f5,f6,f7,f8,_⟩:=hrw.frz
  obtain⟨_,_,e2,e3,e4,e5,e6,e7,e8,_⟩:=hrw.cells
  clear hx hr2 ht hbg hrw hzw hqw hbe hoth hlr hg hp HR HZ HQ HG HSh HB
  go_upto_region 3 with fail
  rw[← hw3]
  clear hw3 f2 f3 f4 f5 f6 f7 f8 e2 e3 e4 e5 e6 e7 e8
  go_wp2_with fail
  refine HB3.out.mono ?_
  clear HB3
  cases M with
  | er p x=>
   rintro e w4 ⟨rfl,ht⟩
   exact⟨rfl,er_fin HG2.out (HQ3.out.t1.trans ht)⟩
  | ok b r2=>
   rintro e w4 ⟨bv,v4,rfl,hb,hr4,ht⟩
   obtain⟨ba,bq,bqc,rfl⟩:=okSs_s _ _ _ _ hb
   have hbg:=HBg.out
   have hsz3:=HSz3.out
   have hrw:=HR3.out.t1 ht (by omega)
   have hzw:=HZ3.out.t1 ht (by omega)
   have hqw:=HQ3.out.call ht hr4
   have hxw:=okE_t1 HX3.out ht (fun k hk=>by omega)
   obtain⟨w5,hw5⟩:=nm (w4.setCell ⟨(w.heap.size+1+1),16,none⟩ (.slice ba bq bqc))
   have hoth:∀k,k≠(w.heap.size+1+1)→w5.heap[k]? = w4.heap[k]?:=fun k hk=>by rw[hw5];exact heap_setCell_other _ _ _ _ hk
   have HR5:Hid (Row20 w5 (w.heap.size+1+1) (Zi 9) (Ze) (Zi xk) (Zi xo) (Zi xn) (.string xs) (.slice xa xq xqc) (Zi xl) (Zi xc) (Zi 0) (Zi 0) (Zi 0) (Ze) (Zn) (Zi 0) (Zi 0) (.slice ba bq bqc) (Zn) (Zi (pl:Int)) (Zi (pc:Int))):=Zh (by rw[hw5];exact heap_setCell_same _ (w.heap.size+1+1) 16 _ _ _ hrw)
   have hbe:Below w.heap.size w4 w5:=by rw[hw5];exact (Below.refl _ _).setCell (p:=⟨(w.heap.size+1+1),16,none⟩) (by show w.heap.size≤(w.heap.size+1+1);omega) _
   have HQ5:=Zh (hqw.low hbe)
   have HZ5:Hid (z20 w5 (w.heap.size+1)):=Zh ((hoth _ (by omega)).trans hzw)
   have HX5:=Zh (okE_blk hxw hoth (fun k hk=>by omega))
   have HBd5:Hid (RwS (fun k=>(w.heap.size+1+1) < k) w5 b (.slice ba bq bqc)):=Zh (RwS.kept (fun k hk=>by
    rcases hk with hk | hk
    ·exact hk.elim
    ·omega) (fun k hk _=>hoth k (by
    rcases hk with hk | hk
    ·exact hk.elim
    ·omega)) hb)
   have HSz5:Hid ((w.heap.size+1+1) < w5.heap.size):=Zh (blk_lt HR5.out)
   have hlr:r2.length≤r.length:=HSh2.out.ok rfl
   have HLr2:Hid (r2.length≤70000):=Zh (by have:=HLr.out;omega)
   have hg:=HG2.out
   rw[PR.bind_ok] at hg
   have HT:=takes_any w5 rb r2 en nest v4 wElse (by decide) HQ5.out.rd
   obtain⟨_,_,_,_,_,_,_,_,_,_,_,_,_,_,_,_,f16,_⟩:=hrw.frz
   obtain⟨_,_,_,_,_,_,_,_,_,_,_,_,_,_,_,_,e16,_⟩:=hrw.cells
   clear hb hr4 ht hbg hsz3 hrw hzw hqw hxw hoth hbe hlr HR3 HZ3 HQ3 HX3 HG2 HSh2 HSz3 HLr
   go_upto_region 4 with fail
   rw[← hw5]
   clear hw5 f16 e16
   by_cases he:nxtT r2=wElse
   ·rw[if_pos he] at hg
    rw[decide_eq_true he,if_pos he] at HT
    have HT:Hid (Calls Tryz.prog 44 #[Zp rb,.string ⟨#[101,108,115,101]⟩] w5 fun e w'=>e=.returned (.bool true)∧T1 rb w5 w'∧∃v',RdB w' rb r2.tail en nest v'):=Zh HT
    have hp:pOt en f nest r2.tail≠.er (0,0) 0:=fun h=>HNe.out (by rw[hg,h];rfl)
    have HO5:=Zh (fun U v' (hU:QS w U rb r2.tail en nest v')=>HO.out U r2.tail v' hU (by rw[List.length_tail];have:=HLr2.out;omega) hp)
    generalize pOt en f nest r2.tail=M at *
    have HG3:=Zh hg
    clear he hg hp HO HNe HLr2
    go_wp2_with fail
    refine HT.out.mono ?_
    clear HT
    rintro e w6 ⟨rfl,ht,v6,hr6⟩
    have hbg:=HBg.out
    have hsz:=HSz5.out
    have HR6:=Zh (HR5.out.t1 ht (by omega))
    have HZ6:=Zh (HZ5.out.t1 ht (by omega))
    have HQ6:=Zh (HQ5.out.call ht hr6)
    have HX6:=Zh (okE_t1 HX5.out ht (fun k hk=>by omega))
    have HBd6:=Zh (RwS.kept (fun _ q=>q) (fun k hk hl=>ht.block k hl (by omega)) HBd5.out)
    have HO6:=Zh (HO5.out w6 v6 HQ6.out)
    have HSz6:Hid ((w.heap.size+1+1) < w6.heap.size):=Zh (blk_lt HR6.out)
    clear ht hr6 hbg hsz HR5 HZ5 HQ5 HX5 HBd5 HO5 HSz5
    go_wp2_with fail
    refine HO6.out.mono ?_
    clear HO6
    cases M with
    | er p x=>
     rintro e w7 ⟨rfl,ht⟩
     exact⟨rfl,er_fin HG3.out (HQ6.out.t1.trans ht)⟩
    | ok el r3=>
     rintro e w7 ⟨ev,v7,rfl,hel,hr7,ht⟩
     obtain⟨ea,eq,eqc,rfl⟩:=okSs_s _ _ _ _ hel
     have hbg:=HBg.out
     have hsz:=HSz6.out
     have hrw:=HR6.out.t1 ht (by omega)
     have hzw:=HZ6.out.t1 ht (by omega)
     have hqw:=HQ6.out.call ht hr7
     have hxw:=okE_t1 HX6.out ht (fun k hk=>by omega)
     have hbw:=RwS.kept (fun _ q=>q) (fun k hk hl=>ht.block k hl (by omega)) HBd6.out
     obtain⟨w8,hw8⟩:=nm (w7.setCell ⟨(w.heap.size+1+1),17,none⟩ (.slice ea eq eqc))
     have hoth:∀k,k≠(w.heap.size+1+1)→w8.heap[k]? = w7.heap[k]?:=fun k hk=>by rw[hw8];exact heap_setCell_other _ _ _ _ hk
     have hr8:Row20 w8 (w.heap.size+1+1) (Zi 9) (Ze) (Zi xk) (Zi xo) (Zi xn) (.string xs) (.slice xa xq xqc) (Zi xl) (Zi xc) (Zi 0) (Zi 0) (Zi 0) (Ze) (Zn) (Zi 0) (Zi 0) (.slice ba bq bqc) (.slice ea eq eqc) (Zi (pl:Int)) (Zi (pc:Int)):=by rw[hw8];exact heap_setCell_same _ (w.heap.size+1+1) 17 _ _ _ hrw
     have hbe:Below w.heap.size w7 w8:=by rw[hw8];exact (Below.refl _ _).setCell (p:=⟨(w.heap.size+1+1),17,none⟩) (by show w.heap.size≤(w.heap.size+1+1);omega) _
     have hq8:=hqw.low hbe
     have hz8:z20 w8 (w.heap.size+1):=(hoth _ (by omega)).trans hzw
     have hst:okSt (fun k=>(w.heap.size+1+1) < k) (.mk 9 [] x ex0 b el (pl,pc)) (.agg #[Zi 9,Ze,Zi xk,Zi xo,Zi xn,.string xs,.slice xa xq xqc,Zi xl,Zi xc,Zi 0,Zi 0,Zi 0,Ze,Zn,Zi 0,Zi 0,.slice ba bq bqc,.slice ea eq eqc,Zi (pl:Int),Zi (pc:Int)]) w8:=okSt_new (p:=(pl,pc)) 9 [] (okE_blk hxw hoth (fun k hk=>by omega)) (okE_zero _ _) (RwS.kept (fun _ q=>q) (fun k hk _=>hoth k (by omega)) hbw) (RwS.kept (fun k hk=>by
      rcases hk with hk | hk
      ·exact hk.elim
      ·omega) (fun k hk _=>hoth k (by
      rcases hk with hk | hk
      ·exact hk.elim
      ·omega)) hel)
     have HF:=Zh (res20 HG3.out okSt_f (by omega) hbg.2.1 hq8.t1 hz8 hst (P':=New noB w.heap.size) (fun k hk=>.inr (by omega)) (fun k hk=>by omega) hq8.rd)
     obtain⟨_,_,_,_,_,_,_,_,_,_,_,_,_,_,_,_,_,f17,_⟩:=hrw.frz
     obtain⟨_,_,_,_,_,_,_,_,_,_,_,_,_,_,_,_,_,e17,_⟩:=hrw.cells
     have hrg:=hr8.range
     clear hel hr7 ht hbg hsz hrw hzw hqw hxw hbw hoth hr8 hbe hq8 hst HR6 HZ6 HQ6 HX6 HBd6 HG3 HSz6 HBg
     go_upto_region 6 with fail
     rw[← hw8]
     clear hw8 f17 e17
     go_wp2_with (first | (refine wpList_load_mid rfl 117 _ rfl (w.heap.size+1+1) 0 rfl [Zi 9,Ze,Zi xk,Zi xo,Zi xn,.string xs,.slice xa xq xqc,Zi xl,Zi xc,Zi 0,Zi 0,Zi 0,Ze,Zn,Zi 0,Zi 0,.slice ba bq bqc,.slice ea eq eqc,Zi (pl:Int),Zi (pc:Int)] _ hrg Tryz.underlying117 rfl (by kernel_rfl) ?_) | (refine wpList_store_row rfl 117 _ _ rfl (w.heap.size+1) #[Zi 9,Ze,Zi xk,Zi xo,Zi xn,.string xs,.slice xa xq xqc,Zi xl,Zi xc,Zi 0,Zi 0,Zi 0,Ze,Zn,Zi 0,Zi 0,.slice ba bq bqc,.slice ea eq eqc,Zi (pl:Int),Zi (pc:Int)] rfl rfl 117 _ hz8 (by kernel_rfl) rfl (by kernel_rfl) ?_))
     obtain⟨h1,h2⟩:=HF.out
     clear HF hz8 hrg
     generalize w8.setRow (w.heap.size+1) #[Zi 9,Ze,Zi xk,Zi xo,Zi xn,.string xs,.slice xa xq xqc,Zi xl,Zi xc,Zi 0,Zi 0,Zi 0,Ze,Zn,Zi 0,Zi 0,.slice ba bq bqc,.slice ea eq eqc,Zi (pl:Int),Zi (pc:Int)]=W7 at h1 h2 ⊢
     exact bodyPost_ret (v:=.agg #[Zi 9,Ze,Zi xk,Zi xo,Zi xn,.string xs,.slice xa xq xqc,Zi xl,Zi xc,Zi 0,Zi 0,Zi 0,Ze,Zn,Zi 0,Zi 0,.slice ba bq bqc,.slice ea eq eqc,Zi (pl:Int),Zi (pc:Int)]) (res_cell Tryz.results134 rfl h1.load) rfl h2
   ·rw[if_neg he] at hg
    rw[decide_eq_false he,if_neg he] at HT
    have HT:Hid (Calls Tryz.prog 44 #[Zp rb,.string ⟨#[101,108,115,101]⟩] w5 fun e w'=>e=.returned (.bool false)∧T1 rb w5 w'∧∃v',RdB w' rb r2 en nest v'):=Zh HT
    have HG3:=Zh hg
    clear he hg HO HNe HLr2
    go_wp2_with fail
    refine HT.out.mono ?_
    clear HT
    rintro e w8 ⟨rfl,ht,v8,hr6⟩
    have hbg:=HBg.out
    have hsz:=HSz5.out
    have hr8:=HR5.out.t1 ht (by omega)
    have hz8:=HZ5.out.t1 ht (by omega)
    have hq8:=HQ5.out.call ht hr6
    have hst:okSt (fun k=>(w.heap.size+1+1) < k) (.mk 9 [] x ex0 b [] (pl,pc)) (.agg #[Zi 9,Ze,Zi xk,Zi xo,Zi xn,.string xs,.slice xa xq xqc,Zi xl,Zi xc,Zi 0,Zi 0,Zi 0,Ze,Zn,Zi 0,Zi 0,.slice ba bq bqc,Zn,Zi (pl:Int),Zi (pc:Int)]) w8:=okSt_new (p:=(pl,pc)) 9 [] (okE_t1 HX5.out ht (fun k hk=>by omega)) (okE_zero _ _) (RwS.kept (fun _ q=>q) (fun k hk hl=>ht.block k hl (by omega)) HBd5.out) (RwS.nil _ _)
    have HF:=Zh (res20 HG3.out okSt_f (by omega) hbg.2.1 hq8.t1 hz8 hst (P':=New noB w.heap.size) (fun k hk=>.inr (by omega)) (fun k hk=>by omega) hq8.rd)
    have hrg:=hr8.range
    clear ht hr6 hbg hsz hr8 hq8 hst HR5 HZ5 HQ5 HX5 HBd5 HG3 HSz5 HBg
    go_wp2_with (first | (refine wpList_load_mid rfl 117 _ rfl (w.heap.size+1+1) 0 rfl [Zi 9,Ze,Zi xk,Zi xo,Zi xn,.string xs,.slice xa xq xqc,Zi xl,Zi xc,Zi 0,Zi 0,Zi 0,Ze,Zn,Zi 0,Zi 0,.slice ba bq bqc,Zn,Zi (pl:Int),Zi (pc:Int)] _ hrg Tryz.underlying117 rfl (by kernel_rfl) ?_) | (refine wpList_store_row rfl 117 _ _ rfl (w.heap.size+1) #[Zi 9,Ze,Zi xk,Zi xo,Zi xn,.string xs,.slice xa xq xqc,Zi xl,Zi xc,Zi 0,Zi 0,Zi 0,Ze,Zn,Zi 0,Zi 0,.slice ba bq bqc,Zn,Zi (pl:Int),Zi (pc:Int)] rfl rfl 117 _ hz8 (by kernel_rfl) rfl (by kernel_rfl) ?_))
    obtain⟨h1,h2⟩:=HF.out
    clear HF hz8 hrg
    generalize w8.setRow (w.heap.size+1) #[Zi 9,Ze,Zi xk,Zi xo,Zi xn,.string xs,.slice xa xq xqc,Zi xl,Zi xc,Zi 0,Zi 0,Zi 0,Ze,Zn,Zi 0,Zi 0,.slice ba bq bqc,Zn,Zi (pl:Int),Zi (pc:Int)]=W7 at h1 h2 ⊢
    exact bodyPost_ret (v:=.agg #[Zi 9,Ze,Zi xk,Zi xo,Zi xn,.string xs,.slice xa xq xqc,Zi xl,Zi xc,Zi 0,Zi 0,Zi 0,Ze,Zn,Zi 0,Zi 0,.slice ba bq bqc,Zn,Zi (pl:Int),Zi (pc:Int)]) (res_cell Tryz.results134 rfl h1.load) rfl h2
theorem okSt_lt {P:Nat→Prop} {s:St} {v:Value} {W:World} (h:okSt P s v W):okSt (ltB P W.heap.size) s v W:=by
 obtain⟨a,e,hs⟩:=h
 exact⟨a,e,hs.lt⟩
theorem setSt_ok {P:Nat→Prop} {W:World} {s:St} {a0 a1 a2 a3 a4 a5 a6 a7 a8 a9 a10 a11 a12 a13 a14 a15 a16 a17 a18 a19:Value} (p:Nat × Nat) (h:okSt P s (.agg #[a0,a1,a2,a3,a4,a5,a6,a7,a8,a9,a10,a11,a12,a13,a14,a15,a16,a17,a18,a19]) W):okSt P (setSt p s) (.agg #[a0,a1,a2,a3,a4,a5,a6,a7,a8,a9,a10,a11,a12,a13,a14,a15,a16,a17,Zi (p.1:Int),Zi (p.2:Int)]) W:=by
 have hs:=okSt_list h
 cases hs with
 | cons k nm x y body els q x0 x1 x2 x3 x4 x5 x6 y0 y1 y2 y3 y4 y5 y6 B E l cs h1 h2 h3 h4 h5=>
  exact⟨_,rfl,.cons k nm x y body els p _ _ _ _ _ _ _ _ _ _ _ _ _ _ _ _ [] [] h1 h2 h3 h4 .nil⟩
theorem statementIf_any {rb:Nat} {en:Nat × Nat} {f:Nat} (hC:CCo rb en f) (w:World) (ts:List Tok) (nest:Nat) (v:Value) (hq:QS w w rb ts en nest v) (hn:nest≤200) (hl:ts.length≤70000) (hi:nxtT ts=wIf) (hne:pCo en f nest (nxtP en ts) ts.tail≠.er (0,0) 0) :
  Calls Tryz.prog 114 #[Zp rb] w (PrP w rb en nest (pCo en f nest (nxtP en ts) ts.tail) (okSt (New noB w.heap.size))):=by
 obtain⟨W1,hW1⟩:=nm (w.alloc (.cells #[Zi 0,Ze,Zi 0,Zi 0,Zi 0,Ze,Zn,Zi 0,Zi 0,Zi 0,Zi 0,Zi 0,Ze,Zn,Zi 0,Zi 0,Zn,Zn,Zi 0,Zi 0] 117))
 have hb1:Below w.heap.size w W1:=by rw[hW1];exact bel_al _ _
 have hq1:=hq.bel hb1
 have hz1:z20 W1 w.heap.size:=by rw[hW1];exact heap_alloc_new _ _ rfl
 obtain⟨G,hG⟩:=nm ((pCo en f nest (nxtP en ts) ts.tail:PR St))
 rw[← hG] at hne ⊢
 have HN:=next_any W1 rb ts en nest v hq1.rd
 obtain⟨p,hp⟩:=nm (nxtP en ts)
 rw[← hp] at HN hG
 have HB0:=fun U v' (hU:QS w U rb ts.tail en nest v')=>hC U p ts.tail nest v' hU.st hn (by rw[List.length_tail];omega) (by rw[← hG];exact hne)
 rw[← hG] at HB0
 obtain⟨pl,pc⟩:=p
 generalize nxtN ts=nv at *
 generalize nxtK ts=kd at *
 have TK0:Hid (∀U v',RdB U rb ts en nest v'→Calls Tryz.prog 44 #[Zp rb,.string ⟨#[105,102]⟩] U fun e w'=>e=.returned (.bool true)∧T1 rb U w'∧∃v2,RdB w' rb ts.tail en nest v2):=Zh fun U v' h=>by
  have HT:=takes_any U rb ts en nest v' wIf (by decide) h
  rw[decide_eq_true hi,if_pos hi] at HT
  exact HT
 have HB:Hid (∀U v',QS w U rb ts.tail en nest v'→Calls Tryz.prog 134 #[Zp rb,.agg #[Zi (pl:Int),Zi (pc:Int)]] U (PrP U rb en nest G (okSt (New noB U.heap.size)))):=HB0
 obtain⟨u,hu⟩:=nm (S (nxtT ts))
 have HN:Hid (Calls Tryz.prog 106 #[Zp rb] W1 fun e w'=>e=.returned (.agg #[Zi (kd:Int),.string u,Zi nv,Zi (pl:Int),Zi (pc:Int)])∧Below W1.heap.size W1 w'):=Zh (by rw[hu];exact HN)
 have hfl:∀w:World,(Instr.field 83 (.agg #[Zi (kd:Int),.string u,Zi nv,Zi (pl:Int),Zi (pc:Int)]) 3).run Tryz.prog w=.ok (.agg #[Zi (pl:Int),Zi (pc:Int)]) w:=fun _=>by kernel_rfl
 have HQ:=Zh hq1
 have HZ:=Zh hz1
 have HLt:Hid (rb < w.heap.size∧w.heap.size < W1.heap.size):=Zh ⟨hq.lt,blk_lt hz1⟩
 clear hq hb1 hq1 hz1 hp hu hn hl hi hne hG hC HB0
 go_enter Tryz.func114,Tryz.ntmps114
 go_upto_region 1 with fail
 rw[← hW1]
 clear hW1
 go_wp2_with fail
 refine HN.out.mono ?_
 clear HN
 rintro e w2 ⟨rfl,hb2⟩
 obtain⟨w3,hw3⟩:=nm (w2.alloc (.cells #[Zi (pl:Int),Zi (pc:Int)] 43))
 obtain⟨A,hA⟩:=nm (w2.heap.size)
 have hb3:Below w2.heap.size w2 w3:=by rw[hw3];exact bel_al _ _
 have hb13:=hb2.trans (hb3.mono hb2.size)
 have HA:Hid (w3.cell? ⟨A,0,none⟩=some (Zi (pl:Int))∧w3.cell? ⟨A,1,none⟩=some (Zi (pc:Int))):=Zh ⟨by rw[hw3,hA];exact cellN _ _ _ 0 _ rfl,by rw[hw3,hA];exact cellN _ _ _ 1 _ rfl⟩
 have HQ:=Zh (HQ.out.bel hb13)
 have HZ:=Zh (HZ.out.kept hb13)
 have HAw:Hid (w.heap.size < A∧rb < w.heap.size):=Zh ⟨by rw[hA];have:=HLt.out;have:=hb2.size;omega,HLt.out.1⟩
 clear hb2 hb3 hb13 HLt
 go_upto_region 2 with fail
 rw[← hw3,← hA]
 clear hw3 hA hfl
 go_wp2_with fail
 refine (TK0.out _ _ HQ.out.rd).mono ?_
 clear TK0
 rintro e u0 ⟨rfl,ht,v0,hr⟩
 have hlt:=HAw.out
 have HA:Hid (u0.cell? ⟨A,0,none⟩=some (Zi (pl:Int))∧u0.cell? ⟨A,1,none⟩=some (Zi (pc:Int))):=Zh ⟨ht.cell HA.out.1 (by omega),ht.cell HA.out.2 (by omega)⟩
 have HZ:=Zh (HZ.out.t1 ht (by omega))
 have HQ:=Zh (HQ.out.call ht hr)
 clear ht hr hlt
 have HB2:=Zh (HB.out u0 _ HQ.out)
 obtain⟨a0,a1⟩:=HA.out
 clear HB HA HAw
 go_wp2_with fail
 refine HB2.out.mono ?_
 clear HB2 a0 a1
 cases G with
 | er p x=>
  rintro e w6 ⟨rfl,ht⟩
  exact⟨rfl,er_fin rfl (HQ.out.t1.trans ht)⟩
 | ok y r3=>
  rintro e w6 ⟨yv,v3,rfl,hy,hr6,ht⟩
  obtain⟨k,xk,xo,xn,xl,xc,yk,yo,yn,yl,yc,l,c,s,xs,ys,xa,ya,ba,ea,xq,xqc,yq,yqc,bq,bqc,eq,eqc,rfl⟩:=okSt_20 _ _ _ _ hy
  have hlt:=HQ.out.lt
  have hq6:=HQ.out.call ht hr6
  have hz6:=HZ.out.t1 ht (by omega)
  have hzs:=blk_lt HZ.out
  have HF:=Zh (res20 rfl okSt_f (Nat.le_refl _) hlt hq6.t1 hz6 hy (P':=New noB w.heap.size) (fun k hk=>hk.imp id (fun h=>by omega)) (fun k hk=>by
   rcases hk with hk | hk
   ·exact hk.elim
   ·omega) hr6)
  clear hy hr6 ht hlt hq6 hzs HQ HZ
  go_wp2_with (refine wpList_store_row rfl 117 _ _ rfl w.heap.size #[Zi k,.string s,Zi xk,Zi xo,Zi xn,.string xs,.slice xa xq xqc,Zi xl,Zi xc,Zi yk,Zi yo,Zi yn,.string ys,.slice ya yq yqc,Zi yl,Zi yc,.slice ba bq bqc,.slice ea eq eqc,Zi l,Zi c] rfl rfl 117 _ hz6 (by kernel_rfl) rfl (by kernel_rfl) ?_)
  obtain⟨h1,h2⟩:=HF.out
  clear HF hz6
  generalize w6.setRow w.heap.size #[Zi k,.string s,Zi xk,Zi xo,Zi xn,.string xs,.slice xa xq xqc,Zi xl,Zi xc,Zi yk,Zi yo,Zi yn,.string ys,.slice ya yq yqc,Zi yl,Zi yc,.slice ba bq bqc,.slice ea eq eqc,Zi l,Zi c]=W7 at h1 h2 ⊢
  exact bodyPost_ret (v:=.agg #[Zi k,.string s,Zi xk,Zi xo,Zi xn,.string xs,.slice xa xq xqc,Zi xl,Zi xc,Zi yk,Zi yo,Zi yn,.string ys,.slice ya yq yqc,Zi yl,Zi yc,.slice ba bq bqc,.slice ea eq eqc,Zi l,Zi c]) (res_cell Tryz.results114 rfl h1.load) rfl h2
theorem statementRep_any {rb:Nat} {en:Nat × Nat} {f:Nat} (hB:CBl rb en f) (w:World) (ts:List Tok) (nest:Nat) (v:Value) (hq:QS w w rb ts en nest v) (hn:nest≤200) (hl:ts.length≤70000) (hi:¬nxtT ts=wIf) (hr:nxtT ts=wRepeat) (hne:((pW en nest ts.tail).bind fun x r=>(pBl en f nest r).bind fun b r2=>.ok (.mk 10 [] x ex0 b [] (nxtP en ts)) r2:PR St)≠.er (0,0) 0) :
  Calls Tryz.prog 114 #[Zp rb] w (PrP w rb en nest ((pW en nest ts.tail).bind fun x r=>(pBl en f nest r).bind fun b r2=>.ok (.mk 10 [] x ex0 b [] (nxtP en ts)) r2) (okSt (New noB w.heap.size))):=by
 obtain⟨W1,hW1⟩:=nm (w.alloc (.cells #[Zi 0,Ze,Zi 0,Zi 0,Zi 0,Ze,Zn,Zi 0,Zi 0,Zi 0,Zi 0,Zi 0,Ze,Zn,Zi 0,Zi 0,Zn,Zn,Zi 0,Zi 0] 117))
 have hb1:Below w.heap.size w W1:=by rw[hW1];exact bel_al _ _
 have hq1:=hq.bel hb1
 have hz1:z20 W1 w.heap.size:=by rw[hW1];exact heap_alloc_new _ _ rfl
 obtain⟨G,hG⟩:=nm (((pW en nest ts.tail).bind fun x r=>(pBl en f nest r).bind fun b r2=>.ok (.mk 10 [] x ex0 b [] (nxtP en ts)) r2:PR St))
 rw[← hG] at hne ⊢
 have HN:=next_any W1 rb ts en nest v hq1.rd
 obtain⟨p,hp⟩:=nm (nxtP en ts)
 rw[← hp] at HN hG
 obtain⟨pl,pc⟩:=p
 generalize nxtN ts=nv at *
 generalize nxtK ts=kd at *
 have TK0:Hid (∀U v',RdB U rb ts en nest v'→Calls Tryz.prog 44 #[Zp rb,.string ⟨#[105,102]⟩] U fun e w'=>e=.returned (.bool false)∧T1 rb U w'∧∃v2,RdB w' rb ts en nest v2):=Zh fun U v' h=>by
  have HT:=takes_any U rb ts en nest v' wIf (by decide) h
  rw[decide_eq_false hi,if_neg hi] at HT
  exact HT
 have TK1:Hid (∀U v',RdB U rb ts en nest v'→Calls Tryz.prog 44 #[Zp rb,.string ⟨#[114,101,112,101,97,116]⟩] U fun e w'=>e=.returned (.bool true)∧T1 rb U w'∧∃v2,RdB w' rb ts.tail en nest v2):=Zh fun U v' h=>by
  have HT:=takes_any U rb ts en nest v' wRepeat (by decide) h
  rw[decide_eq_true hr,if_pos hr] at HT
  exact HT
 have HE:=Zh (fun U v' (hU:QS w U rb ts.tail en nest v')=>hU.expr hn)
 have HSh:=Zh (pW_shr (en:=en) (nest:=nest) (Nat.le_refl ts.tail.length))
 have HBl:=Zh (fun U r v' (h:QS w U rb r en nest v') (hl:r.length≤70000) (hne:pBl en f nest r≠.er (0,0) 0)=>hB U r nest v' h.st hn hl hne)
 have HLn:Hid (ts.tail.length≤70000):=Zh (by rw[List.length_tail];omega)
 generalize pW en nest ts.tail=M at *
 have HG:=Zh hG
 have HNe:=Zh hne
 obtain⟨u,hu⟩:=nm (S (nxtT ts))
 have HN:Hid (Calls Tryz.prog 106 #[Zp rb] W1 fun e w'=>e=.returned (.agg #[Zi (kd:Int),.string u,Zi nv,Zi (pl:Int),Zi (pc:Int)])∧Below W1.heap.size W1 w'):=Zh (by rw[hu];exact HN)
 have hfl:∀w:World,(Instr.field 83 (.agg #[Zi (kd:Int),.string u,Zi nv,Zi (pl:Int),Zi (pc:Int)]) 3).run Tryz.prog w=.ok (.agg #[Zi (pl:Int),Zi (pc:Int)]) w:=fun _=>by kernel_rfl
 have HQ:=Zh hq1
 have HZ:=Zh hz1
 have HLt:Hid (rb < w.heap.size∧w.heap.size < W1.heap.size):=Zh ⟨hq.lt,blk_lt hz1⟩
 clear hq hb1 hq1 hz1 hp hu hn hl hi hr hne hG hB
 go_enter Tryz.func114,Tryz.ntmps114
 go_upto_region 1 with fail
 rw[← hW1]
 clear hW1
 go_wp2_with fail
 refine HN.out.mono ?_
 clear HN
 rintro e w2 ⟨rfl,hb2⟩
 obtain⟨w3,hw3⟩:=nm (w2.alloc (.cells #[Zi (pl:Int),Zi (pc:Int)] 43))
 obtain⟨A,hA⟩:=nm (w2.heap.size)
 have hb3:Below w2.heap.size w2 w3:=by rw[hw3];exact bel_al _ _
 have hb13:=hb2.trans (hb3.mono hb2.size)
 have HA:Hid (w3.cell? ⟨A,0,none⟩=some (Zi (pl:Int))∧w3.cell? ⟨A,1,none⟩=some (Zi (pc:Int))):=Zh ⟨by rw[hw3,hA];exact cellN _ _ _ 0 _ rfl,by rw[hw3,hA];exact cellN _ _ _ 1 _ rfl⟩
 have HQ:=Zh (HQ.out.bel hb13)
 have HZ:=Zh (HZ.out.kept hb13)
 have HAw:Hid (w.heap.size < A∧rb < w.heap.size):=Zh ⟨by rw[hA];have:=HLt.out;have:=hb2.size;omega,HLt.out.1⟩
 clear hb2 hb3 hb13 HLt
 go_upto_region 2 with fail
 rw[← hw3,← hA]
 clear hw3 hA hfl
 go_wp2_with fail
 refine (TK0.out _ _ HQ.out.rd).mono ?_
 clear TK0
 rintro e u0 ⟨rfl,ht,v0,hr⟩
 have hlt:=HAw.out
 have HA:Hid (u0.cell? ⟨A,0,none⟩=some (Zi (pl:Int))∧u0.cell? ⟨A,1,none⟩=some (Zi (pc:Int))):=Zh ⟨ht.cell HA.out.1 (by omega),ht.cell HA.out.2 (by omega)⟩
 have HZ:=Zh (HZ.out.t1 ht (by omega))
 have HQ:=Zh (HQ.out.call ht hr)
 clear ht hr hlt
 go_wp2_with fail
 refine (TK1.out _ _ HQ.out.rd).mono ?_
 clear TK1
 rintro e u1 ⟨rfl,ht,v1,hr⟩
 have hlt:=HAw.out
 have HA:Hid (u1.cell? ⟨A,0,none⟩=some (Zi (pl:Int))∧u1.cell? ⟨A,1,none⟩=some (Zi (pc:Int))):=Zh ⟨ht.cell HA.out.1 (by omega),ht.cell HA.out.2 (by omega)⟩
 have HZ:=Zh (HZ.out.t1 ht (by omega))
 have HQ:=Zh (HQ.out.call ht hr)
 clear ht hr hlt
 have HE2:=Zh (HE.out u1 _ HQ.out)
 have HSz:Hid (w.heap.size < u1.heap.size):=Zh (blk_lt HZ.out)
 clear HE
 go_wp2_with fail
 refine HE2.out.mono ?_
 clear HE2
 cases M with
 | er p x=>
  rintro e w4 ⟨rfl,ht⟩
  exact⟨rfl,er_fin HG.out (HQ.out.t1.trans ht)⟩
 | ok x r=>
  rintro e w4 ⟨xv,v4,rfl,hx,hr4,ht⟩
  obtain⟨xk,xo,xn,xl,xc,xs,xa,xq,xqc,rfl⟩:=okE_7 _ _ _ _ hx
  have haw:=HAw.out
  obtain⟨w5,hw5⟩:=nm (w4.alloc (.cells #[Zi xk,Zi xo,Zi xn,.string xs,.slice xa xq xqc,Zi xl,Zi xc] 66))
  obtain⟨B,hB⟩:=nm (w4.heap.size)
  have hb5:Below w4.heap.size w4 w5:=by rw[hw5];exact bel_al _ _
  have hx5:Row7 w5 B (Zi xk) (Zi xo) (Zi xn) (.string xs) (.slice xa xq xqc) (Zi xl) (Zi xc):=by rw[hw5,hB];exact Row7.al _ _ _ _ _ _ _ _
  have ht5:T1 rb u1 w5:=ht.trans (T1.bel hb5)
  have hq5:=(HQ.out.call ht hr4).bel hb5
  have hz5:=HZ.out.t1 ht5 (by omega)
  have a0:=ht5.cell HA.out.1 (by omega)
  have a1:=ht5.cell HA.out.2 (by omega)
  have ho5:=okE_mono (P':=fun k=>w.heap.size < k) (okE_bel hx hb5) (fun k hk _=>by
   have:=HSz.out
   rcases hk with hk | hk
   ·exact hk.elim
   ·omega)
  have hbd:Below w5.heap.size w5 w5.drew:=(Grew.refl w5).drew.below
  have HQ6:=Zh (hq5.bel hbd)
  have HZ6:=Zh (hz5.kept hbd)
  have HX6:=Zh (hx5.kept hbd)
  have HO6:=Zh (okE_bel ho5 hbd)
  have HA6:Hid (w5.drew.cell? ⟨A,0,none⟩=some (Zi (pl:Int))∧w5.drew.cell? ⟨A,1,none⟩=some (Zi (pc:Int))):=Zh ⟨(hbd.cell (cell_lt a0)).trans a0,(hbd.cell (cell_lt a1)).trans a1⟩
  have hlr:r.length≤ts.tail.length:=HSh.out.ok rfl
  have hg:=HG.out
  rw[PR.bind_ok] at hg
  have hp:pBl en f nest r≠.er (0,0) 0:=fun h=>HNe.out (by rw[hg,h];rfl)
  have HB6:=Zh (HBl.out w5.drew r v4 HQ6.out (by have:=HLn.out;omega) hp)
  generalize pBl en f nest r=M at *
  have HG2:=Zh hg
  have HBw:Hid (w.heap.size < B∧w.heap.size < w5.drew.heap.size):=Zh ⟨by rw[hB];have:=ht.size;have:=HSz.out;omega,blk_lt HZ6.out⟩
  obtain⟨⟨x0,x1,x2,x3,x4,x5,x6⟩,_⟩:=hx5.cells
  clear hx hr4 ht haw hb5 hx5 ht5 hq5 hz5 ho5 hbd hlr hg hp HQ HZ HA HSh HG HBl HLn HSz HNe
  go_upto_region 6 with fail
  rw[← hw5,← hB]
  clear hw5 hB
  refine wp_region_held_drew (S:=fun w9=>w9.cell? ⟨B,0,none⟩=some (Zi xk)∧w9.cell? ⟨B,1,none⟩=some (Zi xo)∧w9.cell? ⟨B,2,none⟩=some (Zi xn)∧w9.cell? ⟨B,3,none⟩=some (.string xs)∧w9.cell? ⟨B,4,none⟩=some (.slice xa xq xqc)∧w9.cell? ⟨B,5,none⟩=some (Zi xl)∧w9.cell? ⟨B,6,none⟩=some (Zi xc)∧w9.cell? ⟨A,0,none⟩=some (Zi (pl:Int))∧w9.cell? ⟨A,1,none⟩=some (Zi (pc:Int))) (by kernel_rfl) ?_ (fun hHeld=>?_)
  ·exact⟨x0,x1,x2,x3,x4,x5,x6,a0,a1⟩
  refine wpAnyH_take (i:=0) (v:=.agg #[Zi xk,Zi xo,Zi xn,.string xs,.slice xa xq xqc,Zi xl,Zi xc]) rfl (by kernel_rfl) (by kernel_rfl) (by kernel_rfl) (fun _ _ _ h=>h) (Or.inl ⟨by rfl,by intro w hSw;(try dsimp only at hSw);go_simp⟩) (by assumption) ?_
  refine wpAnyH_take (i:=1) (v:=Zp rb) rfl (by kernel_rfl) (by kernel_rfl) (by kernel_rfl) (fun _ _ _ h=>h) (Or.inl ⟨by rfl,by intro w hSw;(try dsimp only at hSw);go_simp⟩) (by assumption) ?_
  refine wpAnyH_take (i:=3) (v:=.agg #[Zi (pl:Int),Zi (pc:Int)]) rfl (by kernel_rfl) (by kernel_rfl) (by kernel_rfl) (fun _ _ _ h=>h) (Or.inl ⟨by rfl,by intro w hSw;(try dsimp only at hSw);go_simp⟩) (by assumption) ?_
  refine wpAnyH_ready (rs:=[2]) (by kernel_rfl) (by simp) ?_
  refine AllReadyH.cons rfl (fun K hK=>?_) AllReadyH.nil
  go_simp
  refine HB6.out.mono ?_
  clear HB6 x0 x1 x2 x3 x4 x5 x6 a0 a1
  cases M with
  | er p x=>
   rintro e w6 ⟨rfl,ht⟩
   exact⟨rfl,er_fin HG2.out (HQ6.out.t1.trans ht)⟩
  | ok b r2=>
   rintro e w6 ⟨bv,v6,rfl,hb,hr6,ht⟩
   obtain⟨ba,bq,bqc,rfl⟩:=okSs_s _ _ _ _ hb
   have haw:=HAw.out
   have hbw:=HBw.out
   have hq6:=HQ6.out.call ht hr6
   have hz6:=HZ6.out.t1 ht (by omega)
   have hx6:=HX6.out.t1 ht (by omega)
   have a0:=ht.cell HA6.out.1 (by omega)
   have a1:=ht.cell HA6.out.2 (by omega)
   have hst:okSt (fun k=>w.heap.size < k) (.mk 10 [] x ex0 b [] (pl,pc)) (.agg #[Zi 10,Ze,Zi xk,Zi xo,Zi xn,.string xs,.slice xa xq xqc,Zi xl,Zi xc,Zi 0,Zi 0,Zi 0,Ze,Zn,Zi 0,Zi 0,.slice ba bq bqc,Zn,Zi (pl:Int),Zi (pc:Int)]) w6:=okSt_new (p:=(pl,pc)) 10 [] (okE_t1 HO6.out ht (fun k hk=>by omega)) (okE_zero _ _) (RwS.kept (fun k hk=>by
    rcases hk with hk | hk
    ·exact hk.elim
    ·omega) (fun _ _ _=>rfl) hb) (RwS.nil _ _)
   have HF:=Zh (res20 HG2.out okSt_f (Nat.le_refl _) haw.2 hq6.t1 hz6 hst (P':=New noB w.heap.size) (fun k hk=>.inr (Nat.le_of_lt hk)) (fun k hk=>by omega) hr6)
   have hx7:Row7 (w6.setRow w.heap.size #[Zi 10,Ze,Zi xk,Zi xo,Zi xn,.string xs,.slice xa xq xqc,Zi xl,Zi xc,Zi 0,Zi 0,Zi 0,Ze,Zn,Zi 0,Zi 0,.slice ba bq bqc,Zn,Zi (pl:Int),Zi (pc:Int)]) B (Zi xk) (Zi xo) (Zi xn) (.string xs) (.slice xa xq xqc) (Zi xl) (Zi xc):=(setR_other (by omega) _).trans hx6
   have hA7:(w6.setRow w.heap.size #[Zi 10,Ze,Zi xk,Zi xo,Zi xn,.string xs,.slice xa xq xqc,Zi xl,Zi xc,Zi 0,Zi 0,Zi 0,Ze,Zn,Zi 0,Zi 0,.slice ba bq bqc,Zn,Zi (pl:Int),Zi (pc:Int)]).cell? ⟨A,0,none⟩=some (Zi (pl:Int))∧(w6.setRow w.heap.size #[Zi 10,Ze,Zi xk,Zi xo,Zi xn,.string xs,.slice xa xq xqc,Zi xl,Zi xc,Zi 0,Zi 0,Zi 0,Ze,Zn,Zi 0,Zi 0,.slice ba bq bqc,Zn,Zi (pl:Int),Zi (pc:Int)]).cell? ⟨A,1,none⟩=some (Zi (pc:Int)):=by
    have h:=setR_other (W:=w6) (R:=w.heap.size) (k:=A) (by omega) #[Zi 10,Ze,Zi xk,Zi xo,Zi xn,.string xs,.slice xa xq xqc,Zi xl,Zi xc,Zi 0,Zi 0,Zi 0,Ze,Zn,Zi 0,Zi 0,.slice ba bq bqc,Zn,Zi (pl:Int),Zi (pc:Int)]
    exact⟨by simp only[World.cell?] at a0 ⊢;rw[h];exact a0,by simp only[World.cell?] at a1 ⊢;rw[h];exact a1⟩
   obtain⟨⟨c0,c1,c2,c3,c4,c5,c6⟩,_⟩:=hx6.cells
   obtain⟨⟨e0,e1,e2,e3,e4,e5,e6⟩,_⟩:=hx7.cells
   obtain⟨b0,b1⟩:=hA7
   clear hb hr6 ht haw hbw hq6 hx6 hst hx7 HG2 HQ6 HZ6 HX6 HO6 HA6 HBw HAw
   go_wp2_with fail
   refine hK.out _ _ (by exact⟨c0,c1,c2,c3,c4,c5,c6,a0,a1⟩) (fun hHeld=>?_)
   clear hK K
   refine wpAnyH_take (i:=4) (v:=.agg #[Zi 10,Ze,Zi xk,Zi xo,Zi xn,.string xs,.slice xa xq xqc,Zi xl,Zi xc,Zi 0,Zi 0,Zi 0,Ze,Zn,Zi 0,Zi 0,.slice ba bq bqc,Zn,Zi (pl:Int),Zi (pc:Int)]) rfl (by kernel_rfl) (by kernel_rfl) (by kernel_rfl) (fun _ _ _ h=>h) (Or.inl ⟨by rfl,by intro w hSw;(try dsimp only at hSw);go_simp⟩) (by assumption) ?_
   refine wpAnyH_ready (rs:=[5]) (by kernel_rfl) (by simp) ?_
   refine AllReadyH.cons rfl (fun K hK=>?_) AllReadyH.nil
   rw[if_pos (by kernel_rfl)]
   refine wp_store_row 117 (.tmp 2) (.tmp 22) rfl w.heap.size #[Zi 10,Ze,Zi xk,Zi xo,Zi xn,.string xs,.slice xa xq xqc,Zi xl,Zi xc,Zi 0,Zi 0,Zi 0,Ze,Zn,Zi 0,Zi 0,.slice ba bq bqc,Zn,Zi (pl:Int),Zi (pc:Int)] rfl rfl 117 _ hz6 (by kernel_rfl) rfl (by kernel_rfl) ?_
   refine hK.out _ _ (by exact⟨e0,e1,e2,e3,e4,e5,e6,b0,b1⟩) (fun hHeld=>?_)
   clear hK K hHeld
   refine wpAnyH_done (by kernel_rfl) ?_ _
   clear c0 c1 c2 c3 c4 c5 c6 a0 a1 e0 e1 e2 e3 e4 e5 e6 b0 b1 hz6
   go_wp2_with fail
   obtain⟨h1,h2⟩:=HF.out
   clear HF
   generalize w6.setRow w.heap.size #[Zi 10,Ze,Zi xk,Zi xo,Zi xn,.string xs,.slice xa xq xqc,Zi xl,Zi xc,Zi 0,Zi 0,Zi 0,Ze,Zn,Zi 0,Zi 0,.slice ba bq bqc,Zn,Zi (pl:Int),Zi (pc:Int)]=W7 at h1 h2 ⊢
   exact bodyPost_ret (v:=.agg #[Zi 10,Ze,Zi xk,Zi xo,Zi xn,.string xs,.slice xa xq xqc,Zi xl,Zi xc,Zi 0,Zi 0,Zi 0,Ze,Zn,Zi 0,Zi 0,.slice ba bq bqc,Zn,Zi (pl:Int),Zi (pc:Int)]) (res_cell Tryz.results114 rfl h1.load) rfl h2
theorem statementSim_any {rb:Nat} {en:Nat × Nat} (w:World) (ts:List Tok) (nest:Nat) (v:Value) (hq:QS w w rb ts en nest v) (hn:nest≤200) (hi:¬nxtT ts=wIf) (hr:¬nxtT ts=wRepeat) :
  Calls Tryz.prog 114 #[Zp rb] w (PrP w rb en nest ((pSi0 en nest ts).bind fun s r=>(pMust en [59] r).bind fun _ r2=>.ok (setSt (nxtP en ts) s) r2) (okSt (New noB w.heap.size))):=by
 obtain⟨W1,hW1⟩:=nm (w.alloc (.cells #[Zi 0,Ze,Zi 0,Zi 0,Zi 0,Ze,Zn,Zi 0,Zi 0,Zi 0,Zi 0,Zi 0,Ze,Zn,Zi 0,Zi 0,Zn,Zn,Zi 0,Zi 0] 117))
 have hb1:Below w.heap.size w W1:=by rw[hW1];exact bel_al _ _
 have hq1:=hq.bel hb1
 have hz1:z20 W1 w.heap.size:=by rw[hW1];exact heap_alloc_new _ _ rfl
 obtain⟨G,hG⟩:=nm (((pSi0 en nest ts).bind fun s r=>(pMust en [59] r).bind fun _ r2=>.ok (setSt (nxtP en ts) s) r2:PR St))
 rw[← hG]
 have HN:=next_any W1 rb ts en nest v hq1.rd
 obtain⟨p,hp⟩:=nm (nxtP en ts)
 rw[← hp] at HN hG
 obtain⟨pl,pc⟩:=p
 generalize nxtN ts=nv at *
 generalize nxtK ts=kd at *
 have TK0:Hid (∀U v',RdB U rb ts en nest v'→Calls Tryz.prog 44 #[Zp rb,.string ⟨#[105,102]⟩] U fun e w'=>e=.returned (.bool false)∧T1 rb U w'∧∃v2,RdB w' rb ts en nest v2):=Zh fun U v' h=>by
  have HT:=takes_any U rb ts en nest v' wIf (by decide) h
  rw[decide_eq_false hi,if_neg hi] at HT
  exact HT
 have TK1:Hid (∀U v',RdB U rb ts en nest v'→Calls Tryz.prog 44 #[Zp rb,.string ⟨#[114,101,112,101,97,116]⟩] U fun e w'=>e=.returned (.bool false)∧T1 rb U w'∧∃v2,RdB w' rb ts en nest v2):=Zh fun U v' h=>by
  have HT:=takes_any U rb ts en nest v' wRepeat (by decide) h
  rw[decide_eq_false hr,if_neg hr] at HT
  exact HT
 have HE:=Zh (fun U v' (hU:QS w U rb ts en nest v')=>simple_any U rb ts en nest v' hU.rd hn hU.jo hU.jn)
 generalize pSi0 en nest ts=M at *
 have HG:=Zh hG
 obtain⟨u,hu⟩:=nm (S (nxtT ts))
 have HN:Hid (Calls Tryz.prog 106 #[Zp rb] W1 fun e w'=>e=.returned (.agg #[Zi (kd:Int),.string u,Zi nv,Zi (pl:Int),Zi (pc:Int)])∧Below W1.heap.size W1 w'):=Zh (by rw[hu];exact HN)
 have hfl:∀w:World,(Instr.field 83 (.agg #[Zi (kd:Int),.string u,Zi nv,Zi (pl:Int),Zi (pc:Int)]) 3).run Tryz.prog w=.ok (.agg #[Zi (pl:Int),Zi (pc:Int)]) w:=fun _=>by kernel_rfl
 have HQ:=Zh hq1
 have HZ:=Zh hz1
 have HLt:Hid (rb < w.heap.size∧w.heap.size < W1.heap.size):=Zh ⟨hq.lt,blk_lt hz1⟩
 clear hq hb1 hq1 hz1 hp hu hn hi hr hG
 go_enter Tryz.func114,Tryz.ntmps114
 go_upto_region 1 with fail
 rw[← hW1]
 clear hW1
 go_wp2_with fail
 refine HN.out.mono ?_
 clear HN
 rintro e w2 ⟨rfl,hb2⟩
 obtain⟨w3,hw3⟩:=nm (w2.alloc (.cells #[Zi (pl:Int),Zi (pc:Int)] 43))
 obtain⟨A,hA⟩:=nm (w2.heap.size)
 have hb3:Below w2.heap.size w2 w3:=by rw[hw3];exact bel_al _ _
 have hb13:=hb2.trans (hb3.mono hb2.size)
 have HA:Hid (w3.cell? ⟨A,0,none⟩=some (Zi (pl:Int))∧w3.cell? ⟨A,1,none⟩=some (Zi (pc:Int))):=Zh ⟨by rw[hw3,hA];exact cellN _ _ _ 0 _ rfl,by rw[hw3,hA];exact cellN _ _ _ 1 _ rfl⟩
 have HQ:=Zh (HQ.out.bel hb13)
 have HZ:=Zh (HZ.out.kept hb13)
 have HAw:Hid (w.heap.size < A∧rb < w.heap.size):=Zh ⟨by rw[hA];have:=HLt.out;have:=hb2.size;omega,HLt.out.1⟩
 clear hb2 hb3 hb13 HLt
 go_upto_region 2 with fail
 rw[← hw3,← hA]
 clear hw3 hA hfl
 go_wp2_with fail
 refine (TK0.out _ _ HQ.out.rd).mono ?_
 clear TK0
 rintro e u0 ⟨rfl,ht,v0,hr⟩
 have hlt:=HAw.out
 have HA:Hid (u0.cell? ⟨A,0,none⟩=some (Zi (pl:Int))∧u0.cell? ⟨A,1,none⟩=some (Zi (pc:Int))):=Zh ⟨ht.cell HA.out.1 (by omega),ht.cell HA.out.2 (by omega)⟩
 have HZ:=Zh (HZ.out.t1 ht (by omega))
 have HQ:=Zh (HQ.out.call ht hr)
 clear ht hr hlt
 go_wp2_with fail
 refine (TK1.out _ _ HQ.out.rd).mono ?_
 clear TK1
 rintro e u1 ⟨rfl,ht,v1,hr⟩
 have hlt:=HAw.out
 have HA:Hid (u1.cell? ⟨A,0,none⟩=some (Zi (pl:Int))∧u1.cell? ⟨A,1,none⟩=some (Zi (pc:Int))):=Zh ⟨ht.cell HA.out.1 (by omega),ht.cell HA.out.2 (by omega)⟩
 have HZ:=Zh (HZ.out.t1 ht (by omega))
 have HQ:=Zh (HQ.out.call ht hr)
 clear ht hr hlt
 have HE2:=Zh (HE.out u1 _ HQ.out)
 have HSz:Hid (w.heap.size < u1.heap.size):=Zh (blk_lt HZ.out)
 clear HE
 go_wp2_with fail
 refine HE2.out.mono ?_
 clear HE2
 cases M with
 | er p x=>
  rintro e w4 ⟨rfl,ht⟩
  exact⟨rfl,er_fin HG.out (HQ.out.t1.trans ht)⟩
 | ok s0 r=>
  rintro e w4 ⟨xv,v4,rfl,hx,hr4,ht⟩
  obtain⟨k,xk,xo,xn,xl,xc,yk,yo,yn,yl,yc,l,c,s,xs,ys,xa,ya,ba,ea,xq,xqc,yq,yqc,bq,bqc,eq,eqc,rfl⟩:=okSt_20 _ _ _ _ hx
  have haw:=HAw.out
  obtain⟨wz,hwz⟩:=nm (w4.alloc (.cells #[Zi 0,Ze,Zi 0,Zi 0,Zi 0,Ze,Zn,Zi 0,Zi 0,Zi 0,Zi 0,Zi 0,Ze,Zn,Zi 0,Zi 0,Zn,Zn,Zi 0,Zi 0] 117))
  obtain⟨w5,hw5⟩:=nm (w4.alloc (.cells #[Zi k,.string s,Zi xk,Zi xo,Zi xn,.string xs,.slice xa xq xqc,Zi xl,Zi xc,Zi yk,Zi yo,Zi yn,.string ys,.slice ya yq yqc,Zi yl,Zi yc,.slice ba bq bqc,.slice ea eq eqc,Zi l,Zi c] 117))
  have hzz:wz.heap[w4.heap.size]? = some (.cells #[Zi 0,Ze,Zi 0,Zi 0,Zi 0,Ze,Zn,Zi 0,Zi 0,Zi 0,Zi 0,Zi 0,Ze,Zn,Zi 0,Zi 0,Zn,Zn,Zi 0,Zi 0] 117 (0,0)):=by rw[hwz];exact heap_alloc_new _ _ rfl
  have hW2:wz.setRow w4.heap.size #[Zi k,.string s,Zi xk,Zi xo,Zi xn,.string xs,.slice xa xq xqc,Zi xl,Zi xc,Zi yk,Zi yo,Zi yn,.string ys,.slice ya yq yqc,Zi yl,Zi yc,.slice ba bq bqc,.slice ea eq eqc,Zi l,Zi c]=w5:=by rw[hwz,hw5];exact World.setRow_alloc_new _ _ _ _
  have hb5:Below w4.heap.size w4 w5:=by rw[hw5];exact bel_al _ _
  have hs5:Row20 w5 w4.heap.size (Zi k) (.string s) (Zi xk) (Zi xo) (Zi xn) (.string xs) (.slice xa xq xqc) (Zi xl) (Zi xc) (Zi yk) (Zi yo) (Zi yn) (.string ys) (.slice ya yq yqc) (Zi yl) (Zi yc) (.slice ba bq bqc) (.slice ea eq eqc) (Zi l) (Zi c):=by rw[hw5];exact heap_alloc_new _ _ rfl
  have ht5:T1 rb u1 w5:=ht.trans (T1.bel hb5)
  have hq5:=(HQ.out.call ht hr4).bel hb5
  have hz5:=HZ.out.t1 ht5 (by omega)
  have a0:=ht5.cell HA.out.1 (by omega)
  have a1:=ht5.cell HA.out.2 (by omega)
  have hsz:=HSz.out
  have hge:=ht.size
  have ho5:=okSt_f _ (fun k=>w.heap.size < k∧k < w4.heap.size) _ _ _ w5 (okSt_lt hx) (fun k hk=>by
   obtain⟨h1,h2⟩:=hk
   rcases h1 with h1 | h1
   ·exact h1.elim
   ·exact⟨by omega,h2⟩) (fun k hk hl=>hb5.block k hl)
  obtain⟨B,hB⟩:=nm (w4.heap.size)
  rw[← hB] at hs5 hW2 hzz ho5
  obtain⟨w6,hw6⟩:=nm ((w5.setCell ⟨B,18,none⟩ (Zi (pl:Int))).setCell ⟨B,19,none⟩ (Zi (pc:Int)))
  have hoth:∀k,k≠B→w6.heap[k]? = w5.heap[k]?:=fun k hk=>by rw[hw6,heap_setCell_other _ _ _ _ hk,heap_setCell_other _ _ _ _ hk]
  have hBw:w.heap.size < B:=by omega
  have hs6:Row20 w6 B (Zi k) (.string s) (Zi xk) (Zi xo) (Zi xn) (.string xs) (.slice xa xq xqc) (Zi xl) (Zi xc) (Zi yk) (Zi yo) (Zi yn) (.string ys) (.slice ya yq yqc) (Zi yl) (Zi yc) (.slice ba bq bqc) (.slice ea eq eqc) (Zi (pl:Int)) (Zi (pc:Int)):=by rw[hw6];exact heap_setCell_same _ B 19 _ _ _ (heap_setCell_same _ B 18 _ _ _ hs5)
  have hbe:Below w.heap.size w5 w6:=by rw[hw6];exact ((Below.refl _ _).setCell (p:=⟨B,18,none⟩) (Nat.le_of_lt hBw) _).setCell (p:=⟨B,19,none⟩) (Nat.le_of_lt hBw) _
  have HQ6:=Zh (hq5.low hbe)
  have HZ6:Hid (z20 w6 w.heap.size):=Zh ((hoth _ (by omega)).trans hz5)
  have HO6:=Zh (setSt_ok (pl,pc) (okSt_f _ (fun k=>w.heap.size < k∧k < B) _ _ _ w6 ho5 (fun k hk=>hk) (fun k hk _=>hoth k (by omega))))
  have HS6:=Zh hs6
  have HBw:Hid (w.heap.size < B):=Zh hBw
  have HM:=must_any w6 rb r en nest v4 [59] (by decide) HQ6.out.rd
  have hg:=HG.out
  rw[PR.bind_ok] at hg
  generalize pMust en [59] r=M at *
  have HM:Hid (Calls Tryz.prog 46 #[Zp rb,.string ⟨#[59]⟩] w6 (PrP w6 rb en nest M fun _ v _=>v=.tuple #[])):=Zh HM
  have HG2:=Zh hg
  obtain⟨_,_,_,_,_,_,_,_,_,_,_,_,_,_,_,_,_,_,f18,f19⟩:=hs5.frz
  obtain⟨_,_,_,_,_,_,_,_,_,_,_,_,_,_,_,_,_,_,e18,e19⟩:=hs5.cells
  have hs55:Row20 (w5.setCell ⟨B,18,none⟩ (Zi (pl:Int))) B (Zi k) (.string s) (Zi xk) (Zi xo) (Zi xn) (.string xs) (.slice xa xq xqc) (Zi xl) (Zi xc) (Zi yk) (Zi yo) (Zi yn) (.string ys) (.slice ya yq yqc) (Zi yl) (Zi yc) (.slice ba bq bqc) (.slice ea eq eqc) (Zi (pl:Int)) (Zi c):=heap_setCell_same _ B 18 _ _ _ hs5
  obtain⟨_,_,_,_,_,_,_,_,_,_,_,_,_,_,_,_,_,_,_,g19⟩:=hs55.frz
  obtain⟨_,_,_,_,_,_,_,_,_,_,_,_,_,_,_,_,_,_,_,i19⟩:=hs55.cells
  clear hx hr4 ht haw hb5 hs5 ht5 hq5 hz5 ho5 hoth hs6 hbe hg hsz hge hBw HQ HZ HA HG HSz hw5 hs55
  go_upto_region 8 with (first | (rw[← hwz,← hB];refine wpList_store_row rfl 117 _ _ rfl B #[Zi k,.string s,Zi xk,Zi xo,Zi xn,.string xs,.slice xa xq xqc,Zi xl,Zi xc,Zi yk,Zi yo,Zi yn,.string ys,.slice ya yq yqc,Zi yl,Zi yc,.slice ba bq bqc,.slice ea eq eqc,Zi l,Zi c] rfl rfl 117 _ hzz (by kernel_rfl) rfl (by kernel_rfl) ?_))
  rw[hW2]
  clear hW2 hzz hwz hB
  go_upto_region 9 with fail
  rw[← hw6]
  clear hw6 f18 f19 e18 e19 g19 i19 a0 a1
  go_wp2_with fail
  refine HM.out.mono ?_
  clear HM
  cases M with
  | er p x=>
   rintro e w7 ⟨rfl,ht⟩
   exact⟨rfl,er_fin HG2.out (HQ6.out.t1.trans ht)⟩
  | ok _ r2=>
   rintro e w8 ⟨_,v8,rfl,rfl,hr8,ht⟩
   have haw:=HAw.out
   have hbw:=HBw.out
   have hq8:=HQ6.out.call ht hr8
   have hz8:=HZ6.out.t1 ht (by omega)
   have hs8:=HS6.out.t1 ht (by omega)
   have ho8:=okSt_f _ (fun k=>w.heap.size < k∧k < B) _ _ _ w8 HO6.out (fun k hk=>hk) (fun k hk hl=>ht.block k hl (by omega))
   have HF:=Zh (res20 HG2.out okSt_f (Nat.le_refl _) haw.2 hq8.t1 hz8 ho8 (P':=New noB w.heap.size) (fun k hk=>.inr (Nat.le_of_lt hk.1)) (fun k hk=>by omega) hr8)
   have hrg:=hs8.range
   clear hr8 ht haw hbw hq8 hs8 ho8 HG2 HQ6 HZ6 HO6 HS6 HBw HAw
   go_wp2_with (first | (refine wpList_load_mid rfl 117 _ rfl B 0 rfl [Zi k,.string s,Zi xk,Zi xo,Zi xn,.string xs,.slice xa xq xqc,Zi xl,Zi xc,Zi yk,Zi yo,Zi yn,.string ys,.slice ya yq yqc,Zi yl,Zi yc,.slice ba bq bqc,.slice ea eq eqc,Zi (pl:Int),Zi (pc:Int)] _ hrg Tryz.underlying117 rfl (by kernel_rfl) ?_) | (refine wpList_store_row rfl 117 _ _ rfl w.heap.size #[Zi k,.string s,Zi xk,Zi xo,Zi xn,.string xs,.slice xa xq xqc,Zi xl,Zi xc,Zi yk,Zi yo,Zi yn,.string ys,.slice ya yq yqc,Zi yl,Zi yc,.slice ba bq bqc,.slice ea eq eqc,Zi (pl:Int),Zi (pc:Int)] rfl rfl 117 _ hz8 (by kernel_rfl) rfl (by kernel_rfl) ?_))
   obtain⟨h1,h2⟩:=HF.out
   clear HF hz8 hrg
   generalize w8.setRow w.heap.size #[Zi k,.string s,Zi xk,Zi xo,Zi xn,.string xs,.slice xa xq xqc,Zi xl,Zi xc,Zi yk,Zi yo,Zi yn,.string ys,.slice ya yq yqc,Zi yl,Zi yc,.slice ba bq bqc,.slice ea eq eqc,Zi (pl:Int),Zi (pc:Int)]=W7 at h1 h2 ⊢
   exact bodyPost_ret (v:=.agg #[Zi k,.string s,Zi xk,Zi xo,Zi xn,.string xs,.slice xa xq xqc,Zi xl,Zi xc,Zi yk,Zi yo,Zi yn,.string ys,.slice ya yq yqc,Zi yl,Zi yc,.slice ba bq bqc,.slice ea eq eqc,Zi (pl:Int),Zi (pc:Int)]) (res_cell Tryz.results114 rfl h1.load) rfl h2
theorem statement_any {rb:Nat} {en:Nat × Nat} {f:Nat} (hC:CCo rb en f) (hB:CBl rb en f):CSt rb en (f+1):=by
 intro w ts nest v hq hn hl hne
 rw[pSt_eq] at hne ⊢
 by_cases hi:nxtT ts=wIf
 ·rw[if_pos hi] at hne ⊢
  exact statementIf_any hC w ts nest v hq hn hl hi hne
 ·rw[if_neg hi] at hne ⊢
  by_cases hr:nxtT ts=wRepeat
  ·rw[if_pos hr] at hne ⊢
   exact statementRep_any hB w ts nest v hq hn hl hi hr hne
  ·rw[if_neg hr]
   exact statementSim_any w ts nest v hq hn hi hr
theorem stmt_all (rb:Nat) (en:Nat × Nat):∀f,∀g,g≤f→CSs rb en g∧CSt rb en g∧CCo rb en g
 | 0,g,hg=>by
  obtain rfl:g=0:=by omega
  exact⟨blockI_any (fun g hg=>by omega),fun U ts nest v _ _ _ h=>absurd (by simp only[pSt]) h,fun U p ts nest v _ _ _ h=>absurd (by simp only[pCo]) h⟩
 | f+1,g,hg=>by
  have ih:=stmt_all rb en f
  by_cases h:g≤f
  ·exact ih g h
  ·obtain rfl:g=f+1:=by omega
   obtain⟨cs,ct,cc⟩:=ih f (Nat.le_refl f)
   have cb:=block_any cs
   exact⟨blockI_any (fun g hg=>(ih g (by omega)).2.1),statement_any cc cb,condition_any cb (otherwise_any cc cb)⟩
theorem blk_any (w:World) (rb:Nat) (ts:List Tok) (en:Nat × Nat) (nest:Nat) (v:Value) (hq:QS w w rb ts en nest v) (hn:nest≤200) (hl:ts.length≤70000):Calls Tryz.prog 86 #[Zp rb] w (PrP w rb en nest (pBlk en nest ts) (okSs (New noB w.heap.size))):=
 block_any (stmt_all rb en _ _ (Nat.le_refl _)).1 w ts nest v hq hn hl (pBlk_fine (Nat.le_refl _)).ne
end Go.Proofs.YtlfooogmoigpfaaGreatDoor
