import Derived.Test.YtlfooogmoigpfaaGreatDoorQak
import Derived.Test.YtlfooogmoigpfaaGreatDoorQaa
set_option maxRecDepth 100000
set_option maxHeartbeats 8000000
namespace Go.Proofs.YtlfooogmoigpfaaGreatDoor
open Go.RowKit Go.Sort Go.Shelf
def RowC (W:World) (R:Nat) (v0 v1 v2 v3 v4 v5 v6 v7 v8 v9:Value):Prop:=W.heap[R]? = some (.cells #[v0,v1,v2,v3,v4,v5,v6,v7,v8,v9] 68 (0,0))
theorem RowC.kept {w w':World} {R:Nat} {v0 v1 v2 v3 v4 v5 v6 v7 v8 v9:Value} (h:RowC w R v0 v1 v2 v3 v4 v5 v6 v7 v8 v9) (hb:Below w.heap.size w w'):RowC w' R v0 v1 v2 v3 v4 v5 v6 v7 v8 v9:=(hb.block _ (blk_lt h)).trans h
theorem RowC.t1 {sb:Nat} {w w':World} {R:Nat} {v0 v1 v2 v3 v4 v5 v6 v7 v8 v9:Value} (h:RowC w R v0 v1 v2 v3 v4 v5 v6 v7 v8 v9) (ht:T1 sb w w') (hn:R≠sb):RowC w' R v0 v1 v2 v3 v4 v5 v6 v7 v8 v9:=(ht.block R (blk_lt h) hn).trans h
theorem RowC.put {W:World} {R:Nat} {a0 a1 a2 a3 a4 a5 a6 a7 a8 a9:Value} (h:RowC W R a0 a1 a2 a3 a4 a5 a6 a7 a8 a9) (v0 v1 v2 v3 v4 v5 v6 v7 v8 v9:Value):RowC (W.setRow R #[v0,v1,v2,v3,v4,v5,v6,v7,v8,v9]) R v0 v1 v2 v3 v4 v5 v6 v7 v8 v9:=setR_same h
theorem RowC.range {W:World} {R:Nat} {v0 v1 v2 v3 v4 v5 v6 v7 v8 v9:Value} (h:RowC W R v0 v1 v2 v3 v4 v5 v6 v7 v8 v9):W.rangeAt R 0 [v0,v1,v2,v3,v4,v5,v6,v7,v8,v9]:=fun j u hu=>by
 unfold RowC at h
 rw[Nat.zero_add]
 simp only[World.cell?,h]
 simpa using hu
theorem RowC.load {W:World} {R:Nat} {v0 v1 v2 v3 v4 v5 v6 v7 v8 v9:Value} (h:RowC W R v0 v1 v2 v3 v4 v5 v6 v7 v8 v9):(loadVar 68 ⟨R,0,none⟩).run Tryz.prog W=.ok (.agg #[v0,v1,v2,v3,v4,v5,v6,v7,v8,v9]) W:=
 run_loadVar_mid W R 0 68 [v0,v1,v2,v3,v4,v5,v6,v7,v8,v9] _ h.range Tryz.underlying68 rfl (by kernel_rfl)
def RowD (W:World) (R:Nat) (v0 v1 v2 v3 v4 v5 v6:Value):Prop:=W.heap[R]? = some (.cells #[v0,v1,v2,v3,v4,v5,v6] 73 (0,0))
theorem RowD.kept {w w':World} {R:Nat} {v0 v1 v2 v3 v4 v5 v6:Value} (h:RowD w R v0 v1 v2 v3 v4 v5 v6) (hb:Below w.heap.size w w'):RowD w' R v0 v1 v2 v3 v4 v5 v6:=(hb.block _ (blk_lt h)).trans h
theorem RowD.t1 {sb:Nat} {w w':World} {R:Nat} {v0 v1 v2 v3 v4 v5 v6:Value} (h:RowD w R v0 v1 v2 v3 v4 v5 v6) (ht:T1 sb w w') (hn:R≠sb):RowD w' R v0 v1 v2 v3 v4 v5 v6:=(ht.block R (blk_lt h) hn).trans h
theorem RowD.cells {W:World} {R:Nat} {v0 v1 v2 v3 v4 v5 v6:Value} (h:RowD W R v0 v1 v2 v3 v4 v5 v6):W.cell? ⟨R,0,none⟩=some v0∧W.cell? ⟨R,1,none⟩=some v1∧W.cell? ⟨R,2,none⟩=some v2∧W.cell? ⟨R,3,none⟩=some v3∧W.cell? ⟨R,4,none⟩=some v4∧W.cell? ⟨R,5,none⟩=some v5∧W.cell? ⟨R,6,none⟩=some v6:=by
 unfold RowD at h
 exact⟨by simp[World.cell?,h],by simp[World.cell?,h],by simp[World.cell?,h],by simp[World.cell?,h],by simp[World.cell?,h],by simp[World.cell?,h],by simp[World.cell?,h]⟩
theorem RowD.frz {W:World} {R:Nat} {v0 v1 v2 v3 v4 v5 v6:Value} (h:RowD W R v0 v1 v2 v3 v4 v5 v6):W.frozen? ⟨R,0,none⟩=false∧W.frozen? ⟨R,1,none⟩=false∧W.frozen? ⟨R,2,none⟩=false∧W.frozen? ⟨R,3,none⟩=false∧W.frozen? ⟨R,4,none⟩=false∧W.frozen? ⟨R,5,none⟩=false∧W.frozen? ⟨R,6,none⟩=false:=by
 unfold RowD at h
 exact⟨frozen_of_row W R 0 _ _ h,frozen_of_row W R 1 _ _ h,frozen_of_row W R 2 _ _ h,frozen_of_row W R 3 _ _ h,frozen_of_row W R 4 _ _ h,frozen_of_row W R 5 _ _ h,frozen_of_row W R 6 _ _ h⟩
theorem RowD.put {W:World} {R:Nat} {a0 a1 a2 a3 a4 a5 a6:Value} (h:RowD W R a0 a1 a2 a3 a4 a5 a6) (v0 v1 v2 v3 v4 v5 v6:Value):RowD (W.setRow R #[v0,v1,v2,v3,v4,v5,v6]) R v0 v1 v2 v3 v4 v5 v6:=setR_same h
theorem RowD.range {W:World} {R:Nat} {v0 v1 v2 v3 v4 v5 v6:Value} (h:RowD W R v0 v1 v2 v3 v4 v5 v6):W.rangeAt R 0 [v0,v1,v2,v3,v4,v5,v6]:=fun j u hu=>by
 unfold RowD at h
 rw[Nat.zero_add]
 simp only[World.cell?,h]
 simpa using hu
theorem RowD.load {W:World} {R:Nat} {v0 v1 v2 v3 v4 v5 v6:Value} (h:RowD W R v0 v1 v2 v3 v4 v5 v6):(loadVar 73 ⟨R,0,none⟩).run Tryz.prog W=.ok (.agg #[v0,v1,v2,v3,v4,v5,v6]) W:=
 run_loadVar_mid W R 0 73 [v0,v1,v2,v3,v4,v5,v6] _ h.range Tryz.underlying73 rfl (by kernel_rfl)
def RowS (W:World) (R:Nat) (v0 v1:Value):Prop:=W.heap[R]? = some (.cells #[v0,v1] 25 (0,0))
theorem RowS.kept {w w':World} {R:Nat} {v0 v1:Value} (h:RowS w R v0 v1) (hb:Below w.heap.size w w'):RowS w' R v0 v1:=(hb.block _ (blk_lt h)).trans h
theorem RowS.t1 {sb:Nat} {w w':World} {R:Nat} {v0 v1:Value} (h:RowS w R v0 v1) (ht:T1 sb w w') (hn:R≠sb):RowS w' R v0 v1:=(ht.block R (blk_lt h) hn).trans h
theorem RowS.cells {W:World} {R:Nat} {v0 v1:Value} (h:RowS W R v0 v1):W.cell? ⟨R,0,none⟩=some v0∧W.cell? ⟨R,1,none⟩=some v1:=by
 unfold RowS at h
 exact⟨by simp[World.cell?,h],by simp[World.cell?,h]⟩
theorem RowS.frz {W:World} {R:Nat} {v0 v1:Value} (h:RowS W R v0 v1):W.frozen? ⟨R,0,none⟩=false∧W.frozen? ⟨R,1,none⟩=false:=by
 unfold RowS at h
 exact⟨frozen_of_row W R 0 _ _ h,frozen_of_row W R 1 _ _ h⟩
theorem RowS.put {W:World} {R:Nat} {a0 a1:Value} (h:RowS W R a0 a1) (v0 v1:Value):RowS (W.setRow R #[v0,v1]) R v0 v1:=setR_same h
theorem RowS.range {W:World} {R:Nat} {v0 v1:Value} (h:RowS W R v0 v1):W.rangeAt R 0 [v0,v1]:=fun j u hu=>by
 unfold RowS at h
 rw[Nat.zero_add]
 simp only[World.cell?,h]
 simpa using hu
theorem RowS.load {W:World} {R:Nat} {v0 v1:Value} (h:RowS W R v0 v1):(loadVar 25 ⟨R,0,none⟩).run Tryz.prog W=.ok (.agg #[v0,v1]) W:=
 run_loadVar_mid W R 0 25 [v0,v1] _ h.range Tryz.underlying25 rfl (by kernel_rfl)
theorem resR {α:Type} {w W:World} {rb R:Nat} {r:List Tok} {en:Nat × Nat} {nest:Nat} {v:Value} {okv:(Nat→Prop)→α→Value→World→Prop} {P P':Nat→Prop} {x:α} {A:Array Value} {G:PR α} (hG:G=.ok x r) (hok:OkvF okv) (hR:w.heap.size≤R) (hrb:rb < w.heap.size) (ht:T1 rb w W) (hx:okv P x (.agg A) W) (hP:∀k,P k→P' k) (hn:∀k,P k→k≠R) (hr:RdB W rb r en nest v) :
  PrP w rb en nest G (okv P') (.returned (.agg A)) (W.setRow R A):=by
 subst hG
 have hp:Below w.heap.size W (W.setRow R A):=setR_below (Below.refl _ _) hR _
 exact⟨_,_,rfl,hok _ _ _ _ _ _ hx hP (fun k hk _=>setR_other (hn k hk) _),hr.low hp hrb,ht.low hp⟩
abbrev CoS:=List UInt8 × Ex × (Nat × Nat)
def okCo (P:Nat→Prop) (c:CoS) (v:Value) (W:World):Prop:=∃x0 x1 x2 x3 x4 x5 x6,v=.agg #[.string (S c.1),x0,x1,x2,x3,x4,x5,x6,Zi (c.2.2.1:Int),Zi (c.2.2.2:Int)]∧okE P c.2.1 (.agg #[x0,x1,x2,x3,x4,x5,x6]) W
theorem okCo_f:OkvF okCo:=by
 intro P P' c v W W' h hp hs
 obtain⟨x0,x1,x2,x3,x4,x5,x6,e,h⟩:=h
 exact⟨x0,x1,x2,x3,x4,x5,x6,e,okE_f _ _ _ _ _ _ h hp hs⟩
def okPr (P:Nat→Prop) (p:PrS) (v:Value) (W:World):Prop:=∃a r w b,v=.agg #[.string (S p.name),a,r,w,b,Zi (p.at_.1:Int),Zi (p.at_.2:Int)]∧okNs P p.args a W∧okNs P p.reads r W∧okNs P p.writes w W∧RwS P W p.body b
theorem okPr_f:OkvF okPr:=by
 intro P P' c v W W' h hp hs
 obtain⟨a,r,w,b,e,h1,h2,h3,h4⟩:=h
 exact⟨a,r,w,b,e,okNs_f _ _ _ _ _ _ h1 hp hs,okNs_f _ _ _ _ _ _ h2 hp hs,okNs_f _ _ _ _ _ _ h3 hp hs,h4.kept hp hs⟩
theorem okNs_nil (P:Nat→Prop) (W:World):okNs P [] (Zn) W:=⟨⟨rfl,.inl ⟨rfl,rfl⟩⟩,fun g hg=>by cases hg⟩
theorem okNs_lt {P:Nat→Prop} {l:List NmP} {v:Value} {W:World} (h:okNs P l v W):okNs (ltB P W.heap.size) l v W:=⟨h.1,fun g hg=>⟨h.2 g hg,(World.ownsRow.lt h.1 g hg).2⟩⟩
theorem constant_any (w:World) (rb:Nat) (ts:List Tok) (en:Nat × Nat) (v:Value) (hq:QS w w rb ts en 0 v) :
  Calls Tryz.prog 45 #[Zp rb] w (PrP w rb en 0 (pConst en ts) (okCo (New noB w.heap.size))):=by
 obtain⟨W1,hW1⟩:∃z,z=w.alloc (.cells #[Ze,Zi 0,Zi 0,Zi 0,Ze,Zn,Zi 0,Zi 0,Zi 0,Zi 0] 68):=⟨_,rfl⟩
 have hb1:Below w.heap.size w W1:=by rw[hW1];exact bel_al _ _
 have hq1:=hq.bel hb1
 have hz1:RowC W1 w.heap.size (Ze) (Zi 0) (Zi 0) (Zi 0) (Ze) (Zn) (Zi 0) (Zi 0) (Zi 0) (Zi 0):=by rw[hW1];exact heap_alloc_new _ _ rfl
 obtain⟨G,hG⟩:∃z,z=pConst en ts:=⟨_,rfl⟩
 rw[← hG]
 unfold pConst at hG
 have HN:=Zh (name_any W1 rb ts en 0 v hq1.rd)
 generalize pName en ts=M at *
 have HG:=Zh hG
 have HQ:=Zh hq1
 have HZ:=Zh hz1
 have HWs:Hid (w.heap.size < W1.heap.size):=blk_lt hz1
 clear hq hb1 hq1 hz1 hG
 go_enter Tryz.func45,Tryz.ntmps45
 go_upto_region 1 with fail
 rw[← hW1]
 clear hW1
 go_wp2_with fail
 refine HN.out.mono ?_
 clear HN
 cases M with
 | er p x=>
  rintro e w2 ⟨rfl,ht⟩
  exact⟨rfl,er_fin HG.out (HQ.out.t1.trans ht)⟩
 | ok nm r=>
  rintro e w2 ⟨nv,v2,rfl,rfl,hr2,ht⟩
  obtain⟨nt,nl,nc⟩:=nm
  obtain⟨u,hu⟩:∃z,z=S nt:=⟨_,rfl⟩
  simp only[← hu]
  have HU:=Zh hu
  obtain⟨w3,hw3⟩:∃z,z=w2.alloc (.cells #[.string u,Zi (nl:Int),Zi (nc:Int)] 89):=⟨_,rfl⟩
  obtain⟨B,hB⟩:∃z,z=w2.heap.size:=⟨_,rfl⟩
  have hb3:Below w2.heap.size w2 w3:=by rw[hw3];exact bel_al _ _
  have hn3:Row3 w3 B (.string u) (Zi (nl:Int)) (Zi (nc:Int)):=by rw[hw3,hB];exact heap_alloc_new _ _ rfl
  have HQ3:=Zh ((HQ.out.call ht hr2).bel hb3)
  have HZ3:=Zh ((HZ.out.t1 ht (by have:=HQ.out.lt;omega)).kept hb3)
  have HN3:=Zh hn3
  have HBw:Hid (w.heap.size < B∧rb < w.heap.size):=Zh ⟨by rw[hB];have:=ht.size;have:=HWs.out;omega,HQ.out.lt⟩
  have HM:=must_any w3 rb r en 0 v2 [61] (by decide) HQ3.out.rd
  have hg:=HG.out
  rw[PR.bind_ok] at hg
  generalize pMust en [61] r=M2 at *
  have HM:Hid (Calls Tryz.prog 46 #[Zp rb,.string ⟨#[61]⟩] w3 (PrP w3 rb en 0 M2 fun _ v _=>v=.tuple #[])):=Zh HM
  have HG2:=Zh hg
  clear hr2 ht hb3 hn3 HQ HZ HG hg HWs hu
  go_upto_region 2 with fail
  rw[← hw3,← hB]
  clear hw3 hB
  go_wp2_with fail
  refine HM.out.mono ?_
  clear HM
  cases M2 with
  | er p x=>
   rintro e w4 ⟨rfl,ht⟩
   exact⟨rfl,er_fin HG2.out (HQ3.out.t1.trans ht)⟩
  | ok _ r2=>
   rintro e w4 ⟨_,v4,rfl,rfl,hr4,ht⟩
   have hbw:=HBw.out
   have HQ4:=Zh (HQ3.out.call ht hr4)
   have HZ4:=Zh (HZ3.out.t1 ht (by omega))
   have HN4:=Zh (HN3.out.t1 ht (by omega))
   have HE:=Zh (HQ4.out.expr (by omega))
   have hg:=HG2.out
   rw[PR.bind_ok] at hg
   generalize pW en 0 r2=M at *
   have HG3:=Zh hg
   have HS4:Hid (B < w4.heap.size):=Zh (blk_lt HN4.out)
   clear hr4 ht hbw hg HQ3 HZ3 HN3 HG2
   go_wp2_with fail
   refine HE.out.mono ?_
   clear HE
   cases M with
   | er p x=>
    rintro e w5 ⟨rfl,ht⟩
    exact⟨rfl,er_fin HG3.out (HQ4.out.t1.trans ht)⟩
   | ok x r3=>
    rintro e w5 ⟨xv,v5,rfl,hx,hr5,ht⟩
    obtain⟨xk,xo,xn,xl,xc,xs,xa,xq,xqc,rfl⟩:=okE_7 _ _ _ _ hx
    have hbw:=HBw.out
    have hs4:=HS4.out
    obtain⟨w6,hw6⟩:∃z,z=w5.alloc (.cells #[Zi xk,Zi xo,Zi xn,.string xs,.slice xa xq xqc,Zi xl,Zi xc] 66):=⟨_,rfl⟩
    obtain⟨C,hC⟩:∃z,z=w5.heap.size:=⟨_,rfl⟩
    have hb6:Below w5.heap.size w5 w6:=by rw[hw6];exact bel_al _ _
    have ht6:T1 rb w4 w6:=ht.trans (T1.bel hb6)
    have HX6:Hid (Row7 w6 C (Zi xk) (Zi xo) (Zi xn) (.string xs) (.slice xa xq xqc) (Zi xl) (Zi xc)):=Zh (by rw[hw6,hC];exact Row7.al _ _ _ _ _ _ _ _)
    have HQ6:=Zh ((HQ4.out.call ht hr5).bel hb6)
    have HZ6:=Zh (HZ4.out.t1 ht6 (by omega))
    have HN6:=Zh (HN4.out.t1 ht6 (by omega))
    have HO6:=Zh (okE_mono (P':=fun k=>w.heap.size < k) (okE_bel hx hb6) (fun k hk _=>by
     rcases hk with hk | hk
     ·exact hk.elim
     ·omega))
    have HCw:Hid (rb < C):=Zh (by rw[hC];have:=ht.size;omega)
    have HM:=must_any w6 rb r3 en 0 v5 [59] (by decide) HQ6.out.rd
    have hg:=HG3.out
    rw[PR.bind_ok] at hg
    generalize pMust en [59] r3=M2 at *
    have HM:Hid (Calls Tryz.prog 46 #[Zp rb,.string ⟨#[59]⟩] w6 (PrP w6 rb en 0 M2 fun _ v _=>v=.tuple #[])):=Zh HM
    have HG4:=Zh hg
    clear hx hr5 ht hbw hs4 hb6 ht6 hg HQ4 HZ4 HN4 HG3 HS4
    go_upto_region 4 with fail
    rw[← hw6,← hC]
    clear hw6 hC
    go_wp2_with fail
    refine HM.out.mono ?_
    clear HM
    cases M2 with
    | er p x=>
     rintro e w7 ⟨rfl,ht⟩
     exact⟨rfl,er_fin HG4.out (HQ6.out.t1.trans ht)⟩
    | ok _ r4=>
     rintro e w7 ⟨_,v7,rfl,rfl,hr7,ht⟩
     have hbw:=HBw.out
     have hq7:=HQ6.out.call ht hr7
     have hz7:=HZ6.out.t1 ht (by omega)
     have hn7:=HN6.out.t1 ht (by omega)
     have hx7:=HX6.out.t1 ht (by have:=HCw.out;omega)
     have hok:okCo (fun k=>w.heap.size < k) (nt,x,nl,nc) (.agg #[.string u,Zi xk,Zi xo,Zi xn,.string xs,.slice xa xq xqc,Zi xl,Zi xc,Zi (nl:Int),Zi (nc:Int)]) w7:=⟨_,_,_,_,_,_,_,by rw[HU.out],okE_t1 HO6.out ht (fun k hk=>by omega)⟩
     have HF:=Zh (resR HG4.out okCo_f (Nat.le_refl _) hbw.2 hq7.t1 hok (P':=New noB w.heap.size) (fun k hk=>.inr (Nat.le_of_lt hk)) (fun k hk=>by omega) hr7)
     have HF2:=Zh (hz7.put (.string u) (Zi xk) (Zi xo) (Zi xn) (.string xs) (.slice xa xq xqc) (Zi xl) (Zi xc) (Zi (nl:Int)) (Zi (nc:Int)))
     obtain⟨⟨n0,n1,n2⟩,_⟩:=hn7.cells
     obtain⟨⟨x0,x1,x2,x3,x4,x5,x6⟩,_⟩:=hx7.cells
     clear hr7 ht hbw hq7 hn7 hx7 hok HG4 HQ6 HZ6 HN6 HX6 HO6 HCw HBw HU
     go_wp2_with (refine wpList_store_row rfl 68 _ _ rfl w.heap.size #[.string u,Zi xk,Zi xo,Zi xn,.string xs,.slice xa xq xqc,Zi xl,Zi xc,Zi (nl:Int),Zi (nc:Int)] rfl rfl 68 _ hz7 (by kernel_rfl) rfl (by kernel_rfl) ?_)
     have h1:=HF2.out
     have h2:=HF.out
     clear HF HF2 hz7 n0 n1 n2 x0 x1 x2 x3 x4 x5 x6
     generalize w7.setRow w.heap.size #[.string u,Zi xk,Zi xo,Zi xn,.string xs,.slice xa xq xqc,Zi xl,Zi xc,Zi (nl:Int),Zi (nc:Int)]=W7 at h1 h2 ⊢
     exact bodyPost_ret (v:=.agg #[.string u,Zi xk,Zi xo,Zi xn,.string xs,.slice xa xq xqc,Zi xl,Zi xc,Zi (nl:Int),Zi (nc:Int)]) (res_cell Tryz.results45 rfl h1.load) rfl h2
theorem procedure_any (w:World) (rb:Nat) (ts:List Tok) (en:Nat × Nat) (v:Value) (hq:QS w w rb ts en 0 v) (hl:ts.length≤70000) :
  Calls Tryz.prog 47 #[Zp rb] w (PrP w rb en 0 (pProc en ts) (okPr (New noB w.heap.size))):=by
 obtain⟨W1,hW1⟩:∃z,z=w.alloc (.cells #[Ze,Zn,Zn,Zn,Zn,Zi 0,Zi 0] 73):=⟨_,rfl⟩
 have hb1:Below w.heap.size w W1:=by rw[hW1];exact bel_al _ _
 have hq1:=hq.bel hb1
 have hz1:RowD W1 w.heap.size (Ze) (Zn) (Zn) (Zn) (Zn) (Zi 0) (Zi 0):=by rw[hW1];exact heap_alloc_new _ _ rfl
 obtain⟨G,hG⟩:∃z,z=pProc en ts:=⟨_,rfl⟩
 rw[← hG]
 unfold pProc at hG
 have HN:=Zh (name_any W1 rb ts en 0 v hq1.rd)
 have HSh:=Zh (name_shr (en:=en) (Nat.le_refl ts.length))
 generalize pName en ts=M at *
 have HG:=Zh hG
 have HQ:=Zh hq1
 have HZ:=Zh hz1
 have HWs:Hid (w.heap.size < W1.heap.size∧ts.length≤70000):=Zh ⟨blk_lt hz1,hl⟩
 clear hq hb1 hq1 hz1 hG hl
 go_enter Tryz.func47,Tryz.ntmps47
 go_upto_region 1 with fail
 rw[← hW1]
 clear hW1
 go_wp2_with fail
 refine HN.out.mono ?_
 clear HN
 cases M with
 | er p x=>
  rintro e w2 ⟨rfl,ht⟩
  exact⟨rfl,er_fin HG.out (HQ.out.t1.trans ht)⟩
 | ok nm r=>
  rintro e w2 ⟨nv,v2,rfl,rfl,hr2,ht⟩
  obtain⟨nt,nl,nc⟩:=nm
  obtain⟨u,hu⟩:∃z,z=S nt:=⟨_,rfl⟩
  simp only[← hu]
  have HU:=Zh hu
  obtain⟨w3,hw3⟩:∃z,z=w2.alloc (.cells #[.string u,Zi (nl:Int),Zi (nc:Int)] 89):=⟨_,rfl⟩
  have hn3:Row3 w3 w2.heap.size (.string u) (Zi (nl:Int)) (Zi (nc:Int)):=by rw[hw3];exact heap_alloc_new _ _ rfl
  obtain⟨w4,hw4⟩:∃z,z=w3.alloc (.cells #[.string u,Zn,Zn,Zn,Zn,Zi (nl:Int),Zi (nc:Int)] 73):=⟨_,rfl⟩
  obtain⟨D,hD⟩:∃z,z=w3.heap.size:=⟨_,rfl⟩
  have hb3:Below w2.heap.size w2 w3:=by rw[hw3];exact bel_al _ _
  have hb4:Below w3.heap.size w3 w4:=by rw[hw4];exact bel_al _ _
  have hb24:=hb3.trans (hb4.mono hb3.size)
  have HD:Hid (RowD w4 D (.string u) (Zn) (Zn) (Zn) (Zn) (Zi (nl:Int)) (Zi (nc:Int))):=Zh (by rw[hw4,hD];exact heap_alloc_new _ _ rfl)
  have HBw:Hid (w.heap.size < D∧rb < w.heap.size):=Zh ⟨by rw[hD];have:=ht.size;have:=HWs.out;have:=hb3.size;omega,HQ.out.lt⟩
  have HZ:=Zh ((HZ.out.t1 ht (by have:=HQ.out.lt;omega)).kept hb24)
  have HQ:=Zh ((HQ.out.call ht hr2).bel hb24)
  have HLr:Hid (r.length≤70000):=Zh (by have:=HSh.out.ok rfl;have:=HWs.out;omega)
  have hB:=bracketedNs_any w4 rb r en 0 v2 HQ.out.rd [40] [41] (by decide) (by decide) (by omega) 84 (enters_of Tryz.func84 (by kernel_rfl) rfl) #[Zp rb] #[] (fun _ r1=>pArgs en r1) okNs noB (fun k hk=>hk.elim) okNs_f okNs_s
   (fun hq2 hn2 V v' hV hrV=>args_any V rb r.tail en (0+1) v' hrV (HQ.out.jo.t1 hV HQ.out.jn) HQ.out.jn (by rw[List.length_tail];have:=HLr.out;omega))
  have HSh2:Hid (Shr r.length (pBr en 0 [40] [41] r fun _ r1=>pArgs en r1)):=Zh (br_shr (by
   unfold pArgs
   split
   ·exact tail_le (Nat.le_refl _)
   ·exact pNames_shr (tail_le (Nat.le_refl _))))
  have hg:=HG.out
  rw[PR.bind_ok] at hg
  have hg2:G=(pBr en 0 [40] [41] r fun _ r1=>pArgs en r1).bind fun ags r2=>(pOpt en wReads r2).bind fun rs r3=>(pOpt en wWrites r3).bind fun ws r4=>(pBlk en 0 r4).bind fun b r5=>.ok ⟨nt,ags,rs,ws,b,(nl,nc)⟩ r5:=hg
  generalize (pBr en 0 [40] [41] r fun _ r1=>pArgs en r1)=M at *
  have HB:Hid (Calls Tryz.prog 83 #[Zp rb,.string ⟨#[40]⟩,.string ⟨#[41]⟩,.func (.func 84) #[Zp rb] #[]] w4 (PrP w4 rb en 0 M (okNs (New noB w4.heap.size)))):=Zh hB
  have HG:=Zh hg2
  have HSz:Hid (D < w4.heap.size):=Zh (blk_lt HD.out)
  obtain⟨⟨n0,n1,n2⟩,_⟩:=hn3.cells
  clear hr2 ht hn3 hb3 hb4 hb24 hB hg hg2 hu HWs HSh
  go_upto_region 2 with fail
  rw[← hw3]
  clear hw3
  go_upto_region 3 with fail
  rw[← hw4,← hD]
  clear hw4 hD n0 n1 n2
  go_wp2_with fail
  refine HB.out.mono ?_
  clear HB
  cases M with
  | er p x=>
   rintro e w5 ⟨rfl,ht⟩
   exact⟨rfl,er_fin HG.out (HQ.out.t1.trans ht)⟩
  | ok ags r2=>
   rintro e w5 ⟨lv,v5,rfl,hx,hr,ht⟩
   obtain⟨aa,aq,aqc,rfl⟩:=okNs_s _ _ _ _ hx
   have hbw:=HBw.out
   have HD:=Zh (HD.out.t1 ht (by omega))
   have HZ:=Zh (HZ.out.t1 ht (by omega))
   have HQ:=Zh (HQ.out.call ht hr)
   clear hbw
   have HAg:=Zh (okNs_f _ (fun k=>D < k) _ _ _ _ hx (fun k hk=>by
    have:=HSz.out
    rcases hk with hk | hk
    ·exact hk.elim
    ·omega) (fun _ _ _=>rfl):okNs (fun k=>D < k) _ _ w5)
   obtain⟨w6,hw6⟩:∃z,z=w5.setCell ⟨D,1,none⟩ (.slice aa aq aqc):=⟨_,rfl⟩
   have hoth:∀k,k≠D→w6.heap[k]? = w5.heap[k]?:=fun k hk=>by rw[hw6];exact heap_setCell_other _ _ _ _ hk
   have hrow:RowD w5 D (.string u) (Zn) (Zn) (Zn) (Zn) (Zi (nl:Int)) (Zi (nc:Int)):=HD.out
   have HD:Hid (RowD w6 D (.string u) (.slice aa aq aqc) (Zn) (Zn) (Zn) (Zi (nl:Int)) (Zi (nc:Int))):=Zh (by rw[hw6];exact heap_setCell_same _ D 1 _ _ _ hrow)
   have hbe:Below w.heap.size w5 w6:=by rw[hw6];exact (Below.refl _ _).setCell (p:=⟨D,1,none⟩) (by show w.heap.size≤D;have:=HBw.out;omega) _
   have HQ:=Zh (HQ.out.low hbe)
   have HZ:Hid (RowD w6 w.heap.size (Ze) (Zn) (Zn) (Zn) (Zn) (Zi 0) (Zi 0)):=Zh ((hoth _ (by have:=HBw.out;omega)).trans HZ.out)
   have HAg:=Zh (okNs_f _ (fun k=>D < k) _ _ _ _ HAg.out (fun _ q=>q) (fun k hk _=>hoth k (by omega)):okNs (fun k=>D < k) _ _ w6)
   have HVw6:=Zh hw6
   obtain⟨_,f0,_⟩:=hrow.frz
   obtain⟨_,e0,_⟩:=hrow.cells
   clear hoth hrow hbe hw6
   have HLn:Hid (r2.length≤70000):=Zh (by have:=HSh2.out.ok rfl;have:=HLr.out;omega)
   have hg:=HG.out
   rw[PR.bind_ok] at hg
   have HG:=Zh hg
   clear hx ht hr hg HSz HSh2 HLr
   go_upto_region 4 with fail
   rw[← HVw6.out]
   clear HVw6 f0 e0
   have hg:=HG.out
   have HT:=takes_any w6 rb r2 en 0 _ wReads (by decide) HQ.out.rd
   unfold pOpt at hg
   by_cases hr:nxtT r2=wReads
   ·rw[if_pos hr] at hg
    rw[decide_eq_true hr,if_pos hr] at HT
    have HT:Hid (Calls Tryz.prog 44 #[Zp rb,.string ⟨#[114,101,97,100,115]⟩] w6 fun e w'=>e=.returned (.bool true)∧T1 rb w6 w'∧∃v',RdB w' rb r2.tail en 0 v'):=Zh HT
    have HLt:Hid (r2.tail.length≤70000):=Zh (by rw[List.length_tail];have:=HLn.out;omega)
    have HSh:=Zh (pNames_shr (en:=en) (Nat.le_refl r2.tail.length))
    have HNm:=Zh (fun U v' (h:QS w U rb r2.tail en 0 v')=>names_any U rb r2.tail en 0 v' h.rd h.jo h.jn HLt.out)
    have HSz0:Hid (D < w6.heap.size):=Zh (blk_lt HD.out)
    generalize pNames en r2.tail=M at HSh HNm hg
    have HG:=Zh hg
    clear hg hr
    go_wp2_with fail
    refine HT.out.mono ?_
    clear HT
    rintro e w6x ⟨rfl,ht,vx,hr⟩
    have hbw:=HBw.out
    have HD:=Zh (HD.out.t1 ht (by omega))
    have HZ:=Zh (HZ.out.t1 ht (by omega))
    have HQ:=Zh (HQ.out.call ht hr)
    have HAg:=Zh (okNs_f _ (fun k=>D < k) _ _ _ _ HAg.out (fun _ q=>q) (fun k hk hl=>ht.block k hl (by omega)):okNs (fun k=>D < k) _ _ w6x)
    clear hbw
    have HN2:=Zh (HNm.out w6x vx HQ.out)
    have HSz:Hid (D < w6x.heap.size):=Zh (Nat.lt_of_lt_of_le HSz0.out ht.size)
    clear ht hr HNm HSz0
    go_wp2_with fail
    refine HN2.out.mono ?_
    clear HN2
    cases M with
    | er p x=>
     rintro e wv ⟨rfl,ht⟩
     exact⟨rfl,er_fin HG.out (HQ.out.t1.trans ht)⟩
    | ok rs rt=>
     rintro e w6y ⟨lv,vy,rfl,hx,hr,ht⟩
     obtain⟨ra,rq,rqc,rfl⟩:=okNs_s _ _ _ _ hx
     have hbw:=HBw.out
     have HD:=Zh (HD.out.t1 ht (by omega))
     have HZ:=Zh (HZ.out.t1 ht (by omega))
     have HQ:=Zh (HQ.out.call ht hr)
     have HAg:=Zh (okNs_f _ (fun k=>D < k) _ _ _ _ HAg.out (fun _ q=>q) (fun k hk hl=>ht.block k hl (by omega)):okNs (fun k=>D < k) _ _ w6y)
     clear hbw
     have HRs:=Zh (okNs_f _ (fun k=>D < k) _ _ _ _ hx (fun k hk=>by
      have:=HSz.out
      rcases hk with hk | hk
      ·exact hk.elim
      ·omega) (fun _ _ _=>rfl):okNs (fun k=>D < k) _ _ w6y)
     obtain⟨w6z,hw6z⟩:∃z,z=w6y.setCell ⟨D,2,none⟩ (.slice ra rq rqc):=⟨_,rfl⟩
     have hoth:∀k,k≠D→w6z.heap[k]? = w6y.heap[k]?:=fun k hk=>by rw[hw6z];exact heap_setCell_other _ _ _ _ hk
     have hrow:RowD w6y D (.string u) (.slice aa aq aqc) (Zn) (Zn) (Zn) (Zi (nl:Int)) (Zi (nc:Int)):=HD.out
     have HD:Hid (RowD w6z D (.string u) (.slice aa aq aqc) (.slice ra rq rqc) (Zn) (Zn) (Zi (nl:Int)) (Zi (nc:Int))):=Zh (by rw[hw6z];exact heap_setCell_same _ D 2 _ _ _ hrow)
     have hbe:Below w.heap.size w6y w6z:=by rw[hw6z];exact (Below.refl _ _).setCell (p:=⟨D,2,none⟩) (by show w.heap.size≤D;have:=HBw.out;omega) _
     have HQ:=Zh (HQ.out.low hbe)
     have HZ:Hid (RowD w6z w.heap.size (Ze) (Zn) (Zn) (Zn) (Zn) (Zi 0) (Zi 0)):=Zh ((hoth _ (by have:=HBw.out;omega)).trans HZ.out)
     have HAg:=Zh (okNs_f _ (fun k=>D < k) _ _ _ _ HAg.out (fun _ q=>q) (fun k hk _=>hoth k (by omega)):okNs (fun k=>D < k) _ _ w6z)
     have HRs:=Zh (okNs_f _ (fun k=>D < k) _ _ _ _ HRs.out (fun _ q=>q) (fun k hk _=>hoth k (by omega)):okNs (fun k=>D < k) _ _ w6z)
     have HVw6z:=Zh hw6z
     obtain⟨_,_,f1,_⟩:=hrow.frz
     obtain⟨_,_,e1,_⟩:=hrow.cells
     clear hoth hrow hbe hw6z
     have HLn:Hid (rt.length≤70000):=Zh (by have:=HSh.out.ok rfl;have:=HLt.out;omega)
     have hg:=HG.out
     rw[PR.bind_ok] at hg
     have HG:=Zh hg
     clear hx ht hr hg HSz HSh HLt
     go_upto_region 6 with fail
     rw[← HVw6z.out]
     clear HVw6z f1 e1
     have hg:=HG.out
     have HT:=takes_any w6z rb rt en 0 _ wWrites (by decide) HQ.out.rd
     unfold pOpt at hg
     by_cases hw:nxtT rt=wWrites
     ·rw[if_pos hw] at hg
      rw[decide_eq_true hw,if_pos hw] at HT
      have HT:Hid (Calls Tryz.prog 44 #[Zp rb,.string ⟨#[119,114,105,116,101,115]⟩] w6z fun e w'=>e=.returned (.bool true)∧T1 rb w6z w'∧∃v',RdB w' rb rt.tail en 0 v'):=Zh HT
      have HLt:Hid (rt.tail.length≤70000):=Zh (by rw[List.length_tail];have:=HLn.out;omega)
      have HSh:=Zh (pNames_shr (en:=en) (Nat.le_refl rt.tail.length))
      have HNm:=Zh (fun U v' (h:QS w U rb rt.tail en 0 v')=>names_any U rb rt.tail en 0 v' h.rd h.jo h.jn HLt.out)
      have HSz0:Hid (D < w6z.heap.size):=Zh (blk_lt HD.out)
      generalize pNames en rt.tail=M at HSh HNm hg
      have HG:=Zh hg
      clear hg hw
      go_wp2_with fail
      refine HT.out.mono ?_
      clear HT
      rintro e w6zx ⟨rfl,ht,vx,hr⟩
      have hbw:=HBw.out
      have HD:=Zh (HD.out.t1 ht (by omega))
      have HZ:=Zh (HZ.out.t1 ht (by omega))
      have HQ:=Zh (HQ.out.call ht hr)
      have HAg:=Zh (okNs_f _ (fun k=>D < k) _ _ _ _ HAg.out (fun _ q=>q) (fun k hk hl=>ht.block k hl (by omega)):okNs (fun k=>D < k) _ _ w6zx)
      have HRs:=Zh (okNs_f _ (fun k=>D < k) _ _ _ _ HRs.out (fun _ q=>q) (fun k hk hl=>ht.block k hl (by omega)):okNs (fun k=>D < k) _ _ w6zx)
      clear hbw
      have HN2:=Zh (HNm.out w6zx vx HQ.out)
      have HSz:Hid (D < w6zx.heap.size):=Zh (Nat.lt_of_lt_of_le HSz0.out ht.size)
      clear ht hr HNm HSz0
      go_wp2_with fail
      refine HN2.out.mono ?_
      clear HN2
      cases M with
      | er p x=>
       rintro e wv ⟨rfl,ht⟩
       exact⟨rfl,er_fin HG.out (HQ.out.t1.trans ht)⟩
      | ok ws wt=>
       rintro e w6zy ⟨lv,vy,rfl,hx,hr,ht⟩
       obtain⟨wa,wq,wqc,rfl⟩:=okNs_s _ _ _ _ hx
       have hbw:=HBw.out
       have HD:=Zh (HD.out.t1 ht (by omega))
       have HZ:=Zh (HZ.out.t1 ht (by omega))
       have HQ:=Zh (HQ.out.call ht hr)
       have HAg:=Zh (okNs_f _ (fun k=>D < k) _ _ _ _ HAg.out (fun _ q=>q) (fun k hk hl=>ht.block k hl (by omega)):okNs (fun k=>D < k) _ _ w6zy)
       have HRs:=Zh (okNs_f _ (fun k=>D < k) _ _ _ _ HRs.out (fun _ q=>q) (fun k hk hl=>ht.block k hl (by omega)):okNs (fun k=>D < k) _ _ w6zy)
       clear hbw
       have HWs:=Zh (okNs_f _ (fun k=>D < k) _ _ _ _ hx (fun k hk=>by
        have:=HSz.out
        rcases hk with hk | hk
        ·exact hk.elim
        ·omega) (fun _ _ _=>rfl):okNs (fun k=>D < k) _ _ w6zy)
       obtain⟨w6zz,hw6zz⟩:∃z,z=w6zy.setCell ⟨D,3,none⟩ (.slice wa wq wqc):=⟨_,rfl⟩
       have hoth:∀k,k≠D→w6zz.heap[k]? = w6zy.heap[k]?:=fun k hk=>by rw[hw6zz];exact heap_setCell_other _ _ _ _ hk
       have hrow:RowD w6zy D (.string u) (.slice aa aq aqc) (.slice ra rq rqc) (Zn) (Zn) (Zi (nl:Int)) (Zi (nc:Int)):=HD.out
       have HD:Hid (RowD w6zz D (.string u) (.slice aa aq aqc) (.slice ra rq rqc) (.slice wa wq wqc) (Zn) (Zi (nl:Int)) (Zi (nc:Int))):=Zh (by rw[hw6zz];exact heap_setCell_same _ D 3 _ _ _ hrow)
       have hbe:Below w.heap.size w6zy w6zz:=by rw[hw6zz];exact (Below.refl _ _).setCell (p:=⟨D,3,none⟩) (by show w.heap.size≤D;have:=HBw.out;omega) _
       have HQ:=Zh (HQ.out.low hbe)
       have HZ:Hid (RowD w6zz w.heap.size (Ze) (Zn) (Zn) (Zn) (Zn) (Zi 0) (Zi 0)):=Zh ((hoth _ (by have:=HBw.out;omega)).trans HZ.out)
       have HAg:=Zh (okNs_f _ (fun k=>D < k) _ _ _ _ HAg.out (fun _ q=>q) (fun k hk _=>hoth k (by omega)):okNs (fun k=>D < k) _ _ w6zz)
       have HRs:=Zh (okNs_f _ (fun k=>D < k) _ _ _ _ HRs.out (fun _ q=>q) (fun k hk _=>hoth k (by omega)):okNs (fun k=>D < k) _ _ w6zz)
       have HWs:=Zh (okNs_f _ (fun k=>D < k) _ _ _ _ HWs.out (fun _ q=>q) (fun k hk _=>hoth k (by omega)):okNs (fun k=>D < k) _ _ w6zz)
       have HVw6zz:=Zh hw6zz
       obtain⟨_,_,_,f2,_⟩:=hrow.frz
       obtain⟨_,_,_,e2,_⟩:=hrow.cells
       clear hoth hrow hbe hw6zz
       have HLn:Hid (wt.length≤70000):=Zh (by have:=HSh.out.ok rfl;have:=HLt.out;omega)
       have hg:=HG.out
       rw[PR.bind_ok] at hg
       have HG:=Zh hg
       clear hx ht hr hg HSz HSh HLt
       go_upto_region 8 with fail
       rw[← HVw6zz.out]
       clear HVw6zz f2 e2
       have hg:=HG.out
       have HBk:=Zh (blk_any w6zz rb _ en 0 _ HQ.out.st (by omega) HLn.out)
       generalize pBlk en 0 _=M at HBk hg
       have HG:=Zh hg
       have HSz:Hid (D < w6zz.heap.size):=Zh (blk_lt HD.out)
       clear hg HLn
       go_wp2_with fail
       refine HBk.out.mono ?_
       clear HBk
       cases M with
       | er p x=>
        rintro e wv ⟨rfl,ht⟩
        exact⟨rfl,er_fin HG.out (HQ.out.t1.trans ht)⟩
       | ok b r5=>
        rintro e wu ⟨bv,vv,rfl,hx,hr,ht⟩
        obtain⟨ba,bq,bqc,rfl⟩:=okSs_s _ _ _ _ hx
        have hbw:=HBw.out
        have HD:=Zh (HD.out.t1 ht (by omega))
        have HZ:=Zh (HZ.out.t1 ht (by omega))
        have HQ:=Zh (HQ.out.call ht hr)
        have HAg:=Zh (okNs_f _ (fun k=>D < k) _ _ _ _ HAg.out (fun _ q=>q) (fun k hk hl=>ht.block k hl (by omega)):okNs (fun k=>D < k) _ _ wu)
        have HRs:=Zh (okNs_f _ (fun k=>D < k) _ _ _ _ HRs.out (fun _ q=>q) (fun k hk hl=>ht.block k hl (by omega)):okNs (fun k=>D < k) _ _ wu)
        have HWs:=Zh (okNs_f _ (fun k=>D < k) _ _ _ _ HWs.out (fun _ q=>q) (fun k hk hl=>ht.block k hl (by omega)):okNs (fun k=>D < k) _ _ wu)
        clear hbw
        obtain⟨wt,hwt⟩:∃z,z=wu.setCell ⟨D,4,none⟩ (.slice ba bq bqc):=⟨_,rfl⟩
        have hoth:∀k,k≠D→wt.heap[k]? = wu.heap[k]?:=fun k hk=>by rw[hwt];exact heap_setCell_other _ _ _ _ hk
        have hrow:RowD wu D (.string u) (.slice aa aq aqc) (.slice ra rq rqc) (.slice wa wq wqc) (Zn) (Zi (nl:Int)) (Zi (nc:Int)):=HD.out
        have HD:Hid (RowD wt D (.string u) (.slice aa aq aqc) (.slice ra rq rqc) (.slice wa wq wqc) (.slice ba bq bqc) (Zi (nl:Int)) (Zi (nc:Int))):=Zh (by rw[hwt];exact heap_setCell_same _ D 4 _ _ _ hrow)
        have hbe:Below w.heap.size wu wt:=by rw[hwt];exact (Below.refl _ _).setCell (p:=⟨D,4,none⟩) (by show w.heap.size≤D;have:=HBw.out;omega) _
        have HQ:=Zh (HQ.out.low hbe)
        have HZ:Hid (RowD wt w.heap.size (Ze) (Zn) (Zn) (Zn) (Zn) (Zi 0) (Zi 0)):=Zh ((hoth _ (by have:=HBw.out;omega)).trans HZ.out)
        have HAg:=Zh (okNs_f _ (fun k=>D < k) _ _ _ _ HAg.out (fun _ q=>q) (fun k hk _=>hoth k (by omega)):okNs (fun k=>D < k) _ _ wt)
        have HRs:=Zh (okNs_f _ (fun k=>D < k) _ _ _ _ HRs.out (fun _ q=>q) (fun k hk _=>hoth k (by omega)):okNs (fun k=>D < k) _ _ wt)
        have HWs:=Zh (okNs_f _ (fun k=>D < k) _ _ _ _ HWs.out (fun _ q=>q) (fun k hk _=>hoth k (by omega)):okNs (fun k=>D < k) _ _ wt)
        have HBd:=Zh (RwS.kept (P':=fun k=>D < k) (fun k hk=>by
         have:=HSz.out
         rcases hk with hk | hk
         ·exact hk.elim
         ·omega) (fun k hk _=>hoth k (by
         have:=HSz.out
         rcases hk with hk | hk
         ·exact hk.elim
         ·omega)) hx)
        have HVwt:=Zh hwt
        obtain⟨_,_,_,_,f3,_⟩:=hrow.frz
        obtain⟨_,_,_,_,e3,_⟩:=hrow.cells
        clear hoth hrow hbe hwt
        clear hx ht hr HSz
        go_upto_region 9 with fail
        rw[← HVwt.out]
        clear HVwt f3 e3
        have hrg:=HD.out.range
        have hz:=HZ.out
        have hok:okPr (fun k=>D < k) ⟨nt,ags,rs,ws,b,(nl,nc)⟩ (.agg #[.string u,.slice aa aq aqc,.slice ra rq rqc,.slice wa wq wqc,.slice ba bq bqc,Zi (nl:Int),Zi (nc:Int)]) wt:=⟨_,_,_,_,by rw[HU.out],HAg.out,HRs.out,HWs.out,HBd.out⟩
        have HF:=Zh (resR HG.out okPr_f (Nat.le_refl _) HBw.out.2 HQ.out.t1 hok (P':=New noB w.heap.size) (fun k hk=>.inr (by have:=HBw.out;omega)) (fun k hk=>by have:=HBw.out;omega) HQ.out.rd)
        have HF2:=Zh (hz.put (.string u) (.slice aa aq aqc) (.slice ra rq rqc) (.slice wa wq wqc) (.slice ba bq bqc) (Zi (nl:Int)) (Zi (nc:Int)))
        clear hok HG HQ HZ HD HAg HBd HBw HU HRs HWs
        go_wp2_with (first | (refine wpList_load_mid rfl 73 _ rfl D 0 rfl [.string u,.slice aa aq aqc,.slice ra rq rqc,.slice wa wq wqc,.slice ba bq bqc,Zi (nl:Int),Zi (nc:Int)] _ hrg Tryz.underlying73 rfl (by kernel_rfl) ?_) | (refine wpList_store_row rfl 73 _ _ rfl w.heap.size #[.string u,.slice aa aq aqc,.slice ra rq rqc,.slice wa wq wqc,.slice ba bq bqc,Zi (nl:Int),Zi (nc:Int)] rfl rfl 73 _ hz (by kernel_rfl) rfl (by kernel_rfl) ?_))
        have h1:=HF2.out
        have h2:=HF.out
        clear HF HF2 hz hrg
        generalize wt.setRow w.heap.size #[.string u,.slice aa aq aqc,.slice ra rq rqc,.slice wa wq wqc,.slice ba bq bqc,Zi (nl:Int),Zi (nc:Int)]=W7 at h1 h2 ⊢
        exact bodyPost_ret (v:=.agg #[.string u,.slice aa aq aqc,.slice ra rq rqc,.slice wa wq wqc,.slice ba bq bqc,Zi (nl:Int),Zi (nc:Int)]) (res_cell Tryz.results47 rfl h1.load) rfl h2
     ·rw[if_neg hw] at hg
      rw[decide_eq_false hw,if_neg hw] at HT
      have HT:Hid (Calls Tryz.prog 44 #[Zp rb,.string ⟨#[119,114,105,116,101,115]⟩] w6z fun e w'=>e=.returned (.bool false)∧T1 rb w6z w'∧∃v',RdB w' rb rt en 0 v'):=Zh HT
      rw[PR.bind_ok] at hg
      have HG:=Zh hg
      clear hg hw
      go_wp2_with fail
      refine HT.out.mono ?_
      clear HT
      rintro e w6zx ⟨rfl,ht,vx,hr⟩
      have hbw:=HBw.out
      have HD:=Zh (HD.out.t1 ht (by omega))
      have HZ:=Zh (HZ.out.t1 ht (by omega))
      have HQ:=Zh (HQ.out.call ht hr)
      have HAg:=Zh (okNs_f _ (fun k=>D < k) _ _ _ _ HAg.out (fun _ q=>q) (fun k hk hl=>ht.block k hl (by omega)):okNs (fun k=>D < k) _ _ w6zx)
      have HRs:=Zh (okNs_f _ (fun k=>D < k) _ _ _ _ HRs.out (fun _ q=>q) (fun k hk hl=>ht.block k hl (by omega)):okNs (fun k=>D < k) _ _ w6zx)
      clear hbw
      clear ht hr
      have hg:=HG.out
      have HBk:=Zh (blk_any w6zx rb _ en 0 _ HQ.out.st (by omega) HLn.out)
      generalize pBlk en 0 _=M at HBk hg
      have HG:=Zh hg
      have HSz:Hid (D < w6zx.heap.size):=Zh (blk_lt HD.out)
      clear hg HLn
      go_wp2_with fail
      refine HBk.out.mono ?_
      clear HBk
      cases M with
      | er p x=>
       rintro e wv ⟨rfl,ht⟩
       exact⟨rfl,er_fin HG.out (HQ.out.t1.trans ht)⟩
      | ok b r5=>
       rintro e wu ⟨bv,vv,rfl,hx,hr,ht⟩
       obtain⟨ba,bq,bqc,rfl⟩:=okSs_s _ _ _ _ hx
       have hbw:=HBw.out
       have HD:=Zh (HD.out.t1 ht (by omega))
       have HZ:=Zh (HZ.out.t1 ht (by omega))
       have HQ:=Zh (HQ.out.call ht hr)
       have HAg:=Zh (okNs_f _ (fun k=>D < k) _ _ _ _ HAg.out (fun _ q=>q) (fun k hk hl=>ht.block k hl (by omega)):okNs (fun k=>D < k) _ _ wu)
       have HRs:=Zh (okNs_f _ (fun k=>D < k) _ _ _ _ HRs.out (fun _ q=>q) (fun k hk hl=>ht.block k hl (by omega)):okNs (fun k=>D < k) _ _ wu)
       clear hbw
       obtain⟨wt,hwt⟩:∃z,z=wu.setCell ⟨D,4,none⟩ (.slice ba bq bqc):=⟨_,rfl⟩
       have hoth:∀k,k≠D→wt.heap[k]? = wu.heap[k]?:=fun k hk=>by rw[hwt];exact heap_setCell_other _ _ _ _ hk
       have hrow:RowD wu D (.string u) (.slice aa aq aqc) (.slice ra rq rqc) (Zn) (Zn) (Zi (nl:Int)) (Zi (nc:Int)):=HD.out
       have HD:Hid (RowD wt D (.string u) (.slice aa aq aqc) (.slice ra rq rqc) (Zn) (.slice ba bq bqc) (Zi (nl:Int)) (Zi (nc:Int))):=Zh (by rw[hwt];exact heap_setCell_same _ D 4 _ _ _ hrow)
       have hbe:Below w.heap.size wu wt:=by rw[hwt];exact (Below.refl _ _).setCell (p:=⟨D,4,none⟩) (by show w.heap.size≤D;have:=HBw.out;omega) _
       have HQ:=Zh (HQ.out.low hbe)
       have HZ:Hid (RowD wt w.heap.size (Ze) (Zn) (Zn) (Zn) (Zn) (Zi 0) (Zi 0)):=Zh ((hoth _ (by have:=HBw.out;omega)).trans HZ.out)
       have HAg:=Zh (okNs_f _ (fun k=>D < k) _ _ _ _ HAg.out (fun _ q=>q) (fun k hk _=>hoth k (by omega)):okNs (fun k=>D < k) _ _ wt)
       have HRs:=Zh (okNs_f _ (fun k=>D < k) _ _ _ _ HRs.out (fun _ q=>q) (fun k hk _=>hoth k (by omega)):okNs (fun k=>D < k) _ _ wt)
       have HBd:=Zh (RwS.kept (P':=fun k=>D < k) (fun k hk=>by
        have:=HSz.out
        rcases hk with hk | hk
        ·exact hk.elim
        ·omega) (fun k hk _=>hoth k (by
        have:=HSz.out
        rcases hk with hk | hk
        ·exact hk.elim
        ·omega)) hx)
       have HVwt:=Zh hwt
       obtain⟨_,_,_,_,f4,_⟩:=hrow.frz
       obtain⟨_,_,_,_,e4,_⟩:=hrow.cells
       clear hoth hrow hbe hwt
       clear hx ht hr HSz
       go_upto_region 9 with fail
       rw[← HVwt.out]
       clear HVwt f4 e4
       have hrg:=HD.out.range
       have hz:=HZ.out
       have hok:okPr (fun k=>D < k) ⟨nt,ags,rs,[],b,(nl,nc)⟩ (.agg #[.string u,.slice aa aq aqc,.slice ra rq rqc,Zn,.slice ba bq bqc,Zi (nl:Int),Zi (nc:Int)]) wt:=⟨_,_,_,_,by rw[HU.out],HAg.out,HRs.out,okNs_nil _ _,HBd.out⟩
       have HF:=Zh (resR HG.out okPr_f (Nat.le_refl _) HBw.out.2 HQ.out.t1 hok (P':=New noB w.heap.size) (fun k hk=>.inr (by have:=HBw.out;omega)) (fun k hk=>by have:=HBw.out;omega) HQ.out.rd)
       have HF2:=Zh (hz.put (.string u) (.slice aa aq aqc) (.slice ra rq rqc) (Zn) (.slice ba bq bqc) (Zi (nl:Int)) (Zi (nc:Int)))
       clear hok HG HQ HZ HD HAg HBd HBw HU HRs
       go_wp2_with (first | (refine wpList_load_mid rfl 73 _ rfl D 0 rfl [.string u,.slice aa aq aqc,.slice ra rq rqc,Zn,.slice ba bq bqc,Zi (nl:Int),Zi (nc:Int)] _ hrg Tryz.underlying73 rfl (by kernel_rfl) ?_) | (refine wpList_store_row rfl 73 _ _ rfl w.heap.size #[.string u,.slice aa aq aqc,.slice ra rq rqc,Zn,.slice ba bq bqc,Zi (nl:Int),Zi (nc:Int)] rfl rfl 73 _ hz (by kernel_rfl) rfl (by kernel_rfl) ?_))
       have h1:=HF2.out
       have h2:=HF.out
       clear HF HF2 hz hrg
       generalize wt.setRow w.heap.size #[.string u,.slice aa aq aqc,.slice ra rq rqc,Zn,.slice ba bq bqc,Zi (nl:Int),Zi (nc:Int)]=W7 at h1 h2 ⊢
       exact bodyPost_ret (v:=.agg #[.string u,.slice aa aq aqc,.slice ra rq rqc,Zn,.slice ba bq bqc,Zi (nl:Int),Zi (nc:Int)]) (res_cell Tryz.results47 rfl h1.load) rfl h2
   ·rw[if_neg hr] at hg
    rw[decide_eq_false hr,if_neg hr] at HT
    have HT:Hid (Calls Tryz.prog 44 #[Zp rb,.string ⟨#[114,101,97,100,115]⟩] w6 fun e w'=>e=.returned (.bool false)∧T1 rb w6 w'∧∃v',RdB w' rb r2 en 0 v'):=Zh HT
    rw[PR.bind_ok] at hg
    have HG:=Zh hg
    clear hg hr
    go_wp2_with fail
    refine HT.out.mono ?_
    clear HT
    rintro e w6x ⟨rfl,ht,vx,hr⟩
    have hbw:=HBw.out
    have HD:=Zh (HD.out.t1 ht (by omega))
    have HZ:=Zh (HZ.out.t1 ht (by omega))
    have HQ:=Zh (HQ.out.call ht hr)
    have HAg:=Zh (okNs_f _ (fun k=>D < k) _ _ _ _ HAg.out (fun _ q=>q) (fun k hk hl=>ht.block k hl (by omega)):okNs (fun k=>D < k) _ _ w6x)
    clear hbw
    clear ht hr
    have hg:=HG.out
    have HT:=takes_any w6x rb r2 en 0 _ wWrites (by decide) HQ.out.rd
    unfold pOpt at hg
    by_cases hw:nxtT r2=wWrites
    ·rw[if_pos hw] at hg
     rw[decide_eq_true hw,if_pos hw] at HT
     have HT:Hid (Calls Tryz.prog 44 #[Zp rb,.string ⟨#[119,114,105,116,101,115]⟩] w6x fun e w'=>e=.returned (.bool true)∧T1 rb w6x w'∧∃v',RdB w' rb r2.tail en 0 v'):=Zh HT
     have HLt:Hid (r2.tail.length≤70000):=Zh (by rw[List.length_tail];have:=HLn.out;omega)
     have HSh:=Zh (pNames_shr (en:=en) (Nat.le_refl r2.tail.length))
     have HNm:=Zh (fun U v' (h:QS w U rb r2.tail en 0 v')=>names_any U rb r2.tail en 0 v' h.rd h.jo h.jn HLt.out)
     have HSz0:Hid (D < w6x.heap.size):=Zh (blk_lt HD.out)
     generalize pNames en r2.tail=M at HSh HNm hg
     have HG:=Zh hg
     clear hg hw
     go_wp2_with fail
     refine HT.out.mono ?_
     clear HT
     rintro e w6xx ⟨rfl,ht,vx,hr⟩
     have hbw:=HBw.out
     have HD:=Zh (HD.out.t1 ht (by omega))
     have HZ:=Zh (HZ.out.t1 ht (by omega))
     have HQ:=Zh (HQ.out.call ht hr)
     have HAg:=Zh (okNs_f _ (fun k=>D < k) _ _ _ _ HAg.out (fun _ q=>q) (fun k hk hl=>ht.block k hl (by omega)):okNs (fun k=>D < k) _ _ w6xx)
     clear hbw
     have HN2:=Zh (HNm.out w6xx vx HQ.out)
     have HSz:Hid (D < w6xx.heap.size):=Zh (Nat.lt_of_lt_of_le HSz0.out ht.size)
     clear ht hr HNm HSz0
     go_wp2_with fail
     refine HN2.out.mono ?_
     clear HN2
     cases M with
     | er p x=>
      rintro e wv ⟨rfl,ht⟩
      exact⟨rfl,er_fin HG.out (HQ.out.t1.trans ht)⟩
     | ok ws wt=>
      rintro e w6xy ⟨lv,vy,rfl,hx,hr,ht⟩
      obtain⟨wa,wq,wqc,rfl⟩:=okNs_s _ _ _ _ hx
      have hbw:=HBw.out
      have HD:=Zh (HD.out.t1 ht (by omega))
      have HZ:=Zh (HZ.out.t1 ht (by omega))
      have HQ:=Zh (HQ.out.call ht hr)
      have HAg:=Zh (okNs_f _ (fun k=>D < k) _ _ _ _ HAg.out (fun _ q=>q) (fun k hk hl=>ht.block k hl (by omega)):okNs (fun k=>D < k) _ _ w6xy)
      clear hbw
      have HWs:=Zh (okNs_f _ (fun k=>D < k) _ _ _ _ hx (fun k hk=>by
       have:=HSz.out
       rcases hk with hk | hk
       ·exact hk.elim
       ·omega) (fun _ _ _=>rfl):okNs (fun k=>D < k) _ _ w6xy)
      obtain⟨w6xz,hw6xz⟩:∃z,z=w6xy.setCell ⟨D,3,none⟩ (.slice wa wq wqc):=⟨_,rfl⟩
      have hoth:∀k,k≠D→w6xz.heap[k]? = w6xy.heap[k]?:=fun k hk=>by rw[hw6xz];exact heap_setCell_other _ _ _ _ hk
      have hrow:RowD w6xy D (.string u) (.slice aa aq aqc) (Zn) (Zn) (Zn) (Zi (nl:Int)) (Zi (nc:Int)):=HD.out
      have HD:Hid (RowD w6xz D (.string u) (.slice aa aq aqc) (Zn) (.slice wa wq wqc) (Zn) (Zi (nl:Int)) (Zi (nc:Int))):=Zh (by rw[hw6xz];exact heap_setCell_same _ D 3 _ _ _ hrow)
      have hbe:Below w.heap.size w6xy w6xz:=by rw[hw6xz];exact (Below.refl _ _).setCell (p:=⟨D,3,none⟩) (by show w.heap.size≤D;have:=HBw.out;omega) _
      have HQ:=Zh (HQ.out.low hbe)
      have HZ:Hid (RowD w6xz w.heap.size (Ze) (Zn) (Zn) (Zn) (Zn) (Zi 0) (Zi 0)):=Zh ((hoth _ (by have:=HBw.out;omega)).trans HZ.out)
      have HAg:=Zh (okNs_f _ (fun k=>D < k) _ _ _ _ HAg.out (fun _ q=>q) (fun k hk _=>hoth k (by omega)):okNs (fun k=>D < k) _ _ w6xz)
      have HWs:=Zh (okNs_f _ (fun k=>D < k) _ _ _ _ HWs.out (fun _ q=>q) (fun k hk _=>hoth k (by omega)):okNs (fun k=>D < k) _ _ w6xz)
      have HVw6xz:=Zh hw6xz
      obtain⟨_,_,_,f5,_⟩:=hrow.frz
      obtain⟨_,_,_,e5,_⟩:=hrow.cells
      clear hoth hrow hbe hw6xz
      have HLn:Hid (wt.length≤70000):=Zh (by have:=HSh.out.ok rfl;have:=HLt.out;omega)
      have hg:=HG.out
      rw[PR.bind_ok] at hg
      have HG:=Zh hg
      clear hx ht hr hg HSz HSh HLt
      go_upto_region 8 with fail
      rw[← HVw6xz.out]
      clear HVw6xz f5 e5
      have hg:=HG.out
      have HBk:=Zh (blk_any w6xz rb _ en 0 _ HQ.out.st (by omega) HLn.out)
      generalize pBlk en 0 _=M at HBk hg
      have HG:=Zh hg
      have HSz:Hid (D < w6xz.heap.size):=Zh (blk_lt HD.out)
      clear hg HLn
      go_wp2_with fail
      refine HBk.out.mono ?_
      clear HBk
      cases M with
      | er p x=>
       rintro e wv ⟨rfl,ht⟩
       exact⟨rfl,er_fin HG.out (HQ.out.t1.trans ht)⟩
      | ok b r5=>
       rintro e wu ⟨bv,vv,rfl,hx,hr,ht⟩
       obtain⟨ba,bq,bqc,rfl⟩:=okSs_s _ _ _ _ hx
       have hbw:=HBw.out
       have HD:=Zh (HD.out.t1 ht (by omega))
       have HZ:=Zh (HZ.out.t1 ht (by omega))
       have HQ:=Zh (HQ.out.call ht hr)
       have HAg:=Zh (okNs_f _ (fun k=>D < k) _ _ _ _ HAg.out (fun _ q=>q) (fun k hk hl=>ht.block k hl (by omega)):okNs (fun k=>D < k) _ _ wu)
       have HWs:=Zh (okNs_f _ (fun k=>D < k) _ _ _ _ HWs.out (fun _ q=>q) (fun k hk hl=>ht.block k hl (by omega)):okNs (fun k=>D < k) _ _ wu)
       clear hbw
       obtain⟨wt,hwt⟩:∃z,z=wu.setCell ⟨D,4,none⟩ (.slice ba bq bqc):=⟨_,rfl⟩
       have hoth:∀k,k≠D→wt.heap[k]? = wu.heap[k]?:=fun k hk=>by rw[hwt];exact heap_setCell_other _ _ _ _ hk
       have hrow:RowD wu D (.string u) (.slice aa aq aqc) (Zn) (.slice wa wq wqc) (Zn) (Zi (nl:Int)) (Zi (nc:Int)):=HD.out
       have HD:Hid (RowD wt D (.string u) (.slice aa aq aqc) (Zn) (.slice wa wq wqc) (.slice ba bq bqc) (Zi (nl:Int)) (Zi (nc:Int))):=Zh (by rw[hwt];exact heap_setCell_same _ D 4 _ _ _ hrow)
       have hbe:Below w.heap.size wu wt:=by rw[hwt];exact (Below.refl _ _).setCell (p:=⟨D,4,none⟩) (by show w.heap.size≤D;have:=HBw.out;omega) _
       have HQ:=Zh (HQ.out.low hbe)
       have HZ:Hid (RowD wt w.heap.size (Ze) (Zn) (Zn) (Zn) (Zn) (Zi 0) (Zi 0)):=Zh ((hoth _ (by have:=HBw.out;omega)).trans HZ.out)
       have HAg:=Zh (okNs_f _ (fun k=>D < k) _ _ _ _ HAg.out (fun _ q=>q) (fun k hk _=>hoth k (by omega)):okNs (fun k=>D < k) _ _ wt)
       have HWs:=Zh (okNs_f _ (fun k=>D < k) _ _ _ _ HWs.out (fun _ q=>q) (fun k hk _=>hoth k (by omega)):okNs (fun k=>D < k) _ _ wt)
       have HBd:=Zh (RwS.kept (P':=fun k=>D < k) (fun k hk=>by
        have:=HSz.out
        rcases hk with hk | hk
        ·exact hk.elim
        ·omega) (fun k hk _=>hoth k (by
        have:=HSz.out
        rcases hk with hk | hk
        ·exact hk.elim
        ·omega)) hx)
       have HVwt:=Zh hwt
       obtain⟨_,_,_,_,f6,_⟩:=hrow.frz
       obtain⟨_,_,_,_,e6,_⟩:=hrow.cells
       clear hoth hrow hbe hwt
       clear hx ht hr HSz
       go_upto_region 9 with fail
       rw[← HVwt.out]
       clear HVwt f6 e6
       have hrg:=HD.out.range
       have hz:=HZ.out
       have hok:okPr (fun k=>D < k) ⟨nt,ags,[],ws,b,(nl,nc)⟩ (.agg #[.string u,.slice aa aq aqc,Zn,.slice wa wq wqc,.slice ba bq bqc,Zi (nl:Int),Zi (nc:Int)]) wt:=⟨_,_,_,_,by rw[HU.out],HAg.out,okNs_nil _ _,HWs.out,HBd.out⟩
       have HF:=Zh (resR HG.out okPr_f (Nat.le_refl _) HBw.out.2 HQ.out.t1 hok (P':=New noB w.heap.size) (fun k hk=>.inr (by have:=HBw.out;omega)) (fun k hk=>by have:=HBw.out;omega) HQ.out.rd)
       have HF2:=Zh (hz.put (.string u) (.slice aa aq aqc) (Zn) (.slice wa wq wqc) (.slice ba bq bqc) (Zi (nl:Int)) (Zi (nc:Int)))
       clear hok HG HQ HZ HD HAg HBd HBw HU HWs
       go_wp2_with (first | (refine wpList_load_mid rfl 73 _ rfl D 0 rfl [.string u,.slice aa aq aqc,Zn,.slice wa wq wqc,.slice ba bq bqc,Zi (nl:Int),Zi (nc:Int)] _ hrg Tryz.underlying73 rfl (by kernel_rfl) ?_) | (refine wpList_store_row rfl 73 _ _ rfl w.heap.size #[.string u,.slice aa aq aqc,Zn,.slice wa wq wqc,.slice ba bq bqc,Zi (nl:Int),Zi (nc:Int)] rfl rfl 73 _ hz (by kernel_rfl) rfl (by kernel_rfl) ?_))
       have h1:=HF2.out
       have h2:=HF.out
       clear HF HF2 hz hrg
       generalize wt.setRow w.heap.size #[.string u,.slice aa aq aqc,Zn,.slice wa wq wqc,.slice ba bq bqc,Zi (nl:Int),Zi (nc:Int)]=W7 at h1 h2 ⊢
       exact bodyPost_ret (v:=.agg #[.string u,.slice aa aq aqc,Zn,.slice wa wq wqc,.slice ba bq bqc,Zi (nl:Int),Zi (nc:Int)]) (res_cell Tryz.results47 rfl h1.load) rfl h2
    ·rw[if_neg hw] at hg
     rw[decide_eq_false hw,if_neg hw] at HT
     have HT:Hid (Calls Tryz.prog 44 #[Zp rb,.string ⟨#[119,114,105,116,101,115]⟩] w6x fun e w'=>e=.returned (.bool false)∧T1 rb w6x w'∧∃v',RdB w' rb r2 en 0 v'):=Zh HT
     rw[PR.bind_ok] at hg
     have HG:=Zh hg
     clear hg hw
     go_wp2_with fail
     refine HT.out.mono ?_
     clear HT
     rintro e w6xx ⟨rfl,ht,vx,hr⟩
     have hbw:=HBw.out
     have HD:=Zh (HD.out.t1 ht (by omega))
     have HZ:=Zh (HZ.out.t1 ht (by omega))
     have HQ:=Zh (HQ.out.call ht hr)
     have HAg:=Zh (okNs_f _ (fun k=>D < k) _ _ _ _ HAg.out (fun _ q=>q) (fun k hk hl=>ht.block k hl (by omega)):okNs (fun k=>D < k) _ _ w6xx)
     clear hbw
     clear ht hr
     have hg:=HG.out
     have HBk:=Zh (blk_any w6xx rb _ en 0 _ HQ.out.st (by omega) HLn.out)
     generalize pBlk en 0 _=M at HBk hg
     have HG:=Zh hg
     have HSz:Hid (D < w6xx.heap.size):=Zh (blk_lt HD.out)
     clear hg HLn
     go_wp2_with fail
     refine HBk.out.mono ?_
     clear HBk
     cases M with
     | er p x=>
      rintro e wv ⟨rfl,ht⟩
      exact⟨rfl,er_fin HG.out (HQ.out.t1.trans ht)⟩
     | ok b r5=>
      rintro e wu ⟨bv,vv,rfl,hx,hr,ht⟩
      obtain⟨ba,bq,bqc,rfl⟩:=okSs_s _ _ _ _ hx
      have hbw:=HBw.out
      have HD:=Zh (HD.out.t1 ht (by omega))
      have HZ:=Zh (HZ.out.t1 ht (by omega))
      have HQ:=Zh (HQ.out.call ht hr)
      have HAg:=Zh (okNs_f _ (fun k=>D < k) _ _ _ _ HAg.out (fun _ q=>q) (fun k hk hl=>ht.block k hl (by omega)):okNs (fun k=>D < k) _ _ wu)
      clear hbw
      obtain⟨wt,hwt⟩:∃z,z=wu.setCell ⟨D,4,none⟩ (.slice ba bq bqc):=⟨_,rfl⟩
      have hoth:∀k,k≠D→wt.heap[k]? = wu.heap[k]?:=fun k hk=>by rw[hwt];exact heap_setCell_other _ _ _ _ hk
      have hrow:RowD wu D (.string u) (.slice aa aq aqc) (Zn) (Zn) (Zn) (Zi (nl:Int)) (Zi (nc:Int)):=HD.out
      have HD:Hid (RowD wt D (.string u) (.slice aa aq aqc) (Zn) (Zn) (.slice ba bq bqc) (Zi (nl:Int)) (Zi (nc:Int))):=Zh (by rw[hwt];exact heap_setCell_same _ D 4 _ _ _ hrow)
      have hbe:Below w.heap.size wu wt:=by rw[hwt];exact (Below.refl _ _).setCell (p:=⟨D,4,none⟩) (by show w.heap.size≤D;have:=HBw.out;omega) _
      have HQ:=Zh (HQ.out.low hbe)
      have HZ:Hid (RowD wt w.heap.size (Ze) (Zn) (Zn) (Zn) (Zn) (Zi 0) (Zi 0)):=Zh ((hoth _ (by have:=HBw.out;omega)).trans HZ.out)
      have HAg:=Zh (okNs_f _ (fun k=>D < k) _ _ _ _ HAg.out (fun _ q=>q) (fun k hk _=>hoth k (by omega)):okNs (fun k=>D < k) _ _ wt)
      have HBd:=Zh (RwS.kept (P':=fun k=>D < k) (fun k hk=>by
       have:=HSz.out
       rcases hk with hk | hk
       ·exact hk.elim
       ·omega) (fun k hk _=>hoth k (by
       have:=HSz.out
       rcases hk with hk | hk
       ·exact hk.elim
       ·omega)) hx)
      have HVwt:=Zh hwt
      obtain⟨_,_,_,_,f7,_⟩:=hrow.frz
      obtain⟨_,_,_,_,e7,_⟩:=hrow.cells
      clear hoth hrow hbe hwt
      clear hx ht hr HSz
      go_upto_region 9 with fail
      rw[← HVwt.out]
      clear HVwt f7 e7
      have hrg:=HD.out.range
      have hz:=HZ.out
      have hok:okPr (fun k=>D < k) ⟨nt,ags,[],[],b,(nl,nc)⟩ (.agg #[.string u,.slice aa aq aqc,Zn,Zn,.slice ba bq bqc,Zi (nl:Int),Zi (nc:Int)]) wt:=⟨_,_,_,_,by rw[HU.out],HAg.out,okNs_nil _ _,okNs_nil _ _,HBd.out⟩
      have HF:=Zh (resR HG.out okPr_f (Nat.le_refl _) HBw.out.2 HQ.out.t1 hok (P':=New noB w.heap.size) (fun k hk=>.inr (by have:=HBw.out;omega)) (fun k hk=>by have:=HBw.out;omega) HQ.out.rd)
      have HF2:=Zh (hz.put (.string u) (.slice aa aq aqc) (Zn) (Zn) (.slice ba bq bqc) (Zi (nl:Int)) (Zi (nc:Int)))
      clear hok HG HQ HZ HD HAg HBd HBw HU
      go_wp2_with (first | (refine wpList_load_mid rfl 73 _ rfl D 0 rfl [.string u,.slice aa aq aqc,Zn,Zn,.slice ba bq bqc,Zi (nl:Int),Zi (nc:Int)] _ hrg Tryz.underlying73 rfl (by kernel_rfl) ?_) | (refine wpList_store_row rfl 73 _ _ rfl w.heap.size #[.string u,.slice aa aq aqc,Zn,Zn,.slice ba bq bqc,Zi (nl:Int),Zi (nc:Int)] rfl rfl 73 _ hz (by kernel_rfl) rfl (by kernel_rfl) ?_))
      have h1:=HF2.out
      have h2:=HF.out
      clear HF HF2 hz hrg
      generalize wt.setRow w.heap.size #[.string u,.slice aa aq aqc,Zn,Zn,.slice ba bq bqc,Zi (nl:Int),Zi (nc:Int)]=W7 at h1 h2 ⊢
      exact bodyPost_ret (v:=.agg #[.string u,.slice aa aq aqc,Zn,Zn,.slice ba bq bqc,Zi (nl:Int),Zi (nc:Int)]) (res_cell Tryz.results47 rfl h1.load) rfl h2
end Go.Proofs.YtlfooogmoigpfaaGreatDoor
