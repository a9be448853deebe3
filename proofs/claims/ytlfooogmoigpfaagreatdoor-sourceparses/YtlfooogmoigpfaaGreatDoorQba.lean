import Derived.Test.YtlfooogmoigpfaaGreatDoorQaz
import Derived.Test.YtlfooogmoigpfaaGreatDoorQay
import Derived.Deep.RegionHeld3
import Derived.Test.YtlfooogmoigpfaaGreatDoorQaa
set_option maxRecDepth 100000
set_option maxHeartbeats 8000000
namespace Go.Proofs.YtlfooogmoigpfaaGreatDoor
open Go.RowKit Go.Sort Go.Shelf
theorem stmtE2:ElA 71 117 (.agg #[Zi 0,Ze,Zi 0,Zi 0,Zi 0,Ze,Zn,Zi 0,Zi 0,Zi 0,Zi 0,Zi 0,Ze,Zn,Zi 0,Zi 0,Zn,Zn,Zi 0,Zi 0]) (SzT 117) 248:=stmtE
theorem sz_s:SzT 117=20:=rfl
abbrev bnSA:Array Value:=#[Zi (-1),Ze,Zi 0,Zi 0,Zi 0,Ze,Zn,Zi 0,Zi 0,Zi 0,Zi 0,Zi 0,Ze,Zn,Zi 0,Zi 0,Zn,Zn,Zi 0,Zi 0]
theorem blankS (k:Int):Blank 117 (bnS k):=Or.inr (Or.inl ⟨rfl,k,rfl⟩)
theorem blank_s {b:List Value} (h:Blank 117 b):∃k,b=bnS k:=by
 rcases h with ⟨h,_⟩ | ⟨_,h⟩ | ⟨h,_⟩ | ⟨h,_⟩ | ⟨h,_⟩
 ·exact absurd h (by decide)
 ·exact h
 all_goals exact absurd h (by decide)
def GEx (P:Nat→Prop) (W:World) (a:List Value):Prop:=∃d,GE P W d a
def StX (P:Nat→Prop) (W:World) (R:Value→Prop) (a:List Value):Prop:=∃(k l c:Int) (nm:ByteArray) (xs ys:List Value) (B E:Value),a=Zi k :: .string nm :: (xs ++ (ys ++ [B,E,Zi l,Zi c]))∧xs.length=7∧ys.length=7∧GEx P W xs∧GEx P W ys∧R B∧R E
def GSt (P:Nat→Prop) (W:World):Nat→List Value→Prop
 | 0=>StX P W (fun B=>B=Zn)
 | d+1=>StX P W (fun B=>RowX P W 117 B (GSt P W d))
theorem stx_blank {P:Nat→Prop} {W:World} {R:Value→Prop} (hR:R (Zn)) (k:Int):StX P W R (bnS k):=⟨k,0,0,_,bnE 0,bnE 0,_,_,rfl,rfl,rfl,⟨0,0,rfl⟩,⟨0,0,rfl⟩,hR,hR⟩
theorem stx_scr {P:Nat→Prop} {W W':World} {R R':Value→Prop} (hs:Scr P W W') (hR:∀B,R B→R' B) {a:List Value} (h:StX P W R a):StX P W' R' a:=by
 obtain⟨k,l,c,nm,xs,ys,B,E,e,h1,h2,⟨d1,h3⟩,⟨d2,h4⟩,h5,h6⟩:=h
 exact⟨k,l,c,nm,xs,ys,B,E,e,h1,h2,⟨d1,ge_scr hs d1 _ h3⟩,⟨d2,ge_scr hs d2 _ h4⟩,hR _ h5,hR _ h6⟩
theorem gst_blank {P:Nat→Prop} {W:World} (d:Nat) (k:Int):GSt P W d (bnS k):=by
 cases d
 ·exact stx_blank (R:=fun B=>B=Zn) rfl k
 ·exact stx_blank (.inl rfl) k
theorem gst_scr {P:Nat→Prop} {W W':World} (hs:Scr P W W'):∀(d:Nat) (a:List Value),GSt P W d a→GSt P W' d a
 | 0,a,h=>stx_scr hs (fun _ h=>h) h
 | d+1,a,h=>stx_scr hs (fun _ h=>h.scr hs (gst_scr hs d) (fun b hb=>by obtain⟨k,rfl⟩:=blank_s hb;exact gst_blank d k)) h
theorem st_at {P:Nat→Prop} {W:World} {m q i:Nat} {ao:Option Addr} {R:Value→Prop} (h:RowX P W 117 (.slice ao m q) (StX P W R)) (hi:i < m):∃(g:Nat) (cs:Array Value),ao=some ⟨g,0,none⟩∧P g∧W.heap[g]? = some (.cells cs 117 (0,0))∧i * 20+20≤cs.size∧∃(xs ys:List Value) (B E:Value),xs.length=7∧ys.length=7∧GEx P W xs∧GEx P W ys∧R B∧R E∧W.rangeAt g (i * 20+2) xs∧W.rangeAt g (i * 20+9) ys∧W.cell? ⟨g,i * 20+16,none⟩=some B∧W.cell? ⟨g,i * 20+17,none⟩=some E:=by
 obtain⟨g,cs,e,hP,hc,hl,a,ha,hr,k,l,c,nm,xs,ys,B,E,rfl,h1,h2,h3,h4,h5,h6⟩:=rowx_at sz_s h hi
 refine⟨g,cs,e,hP,hc,hl,xs,ys,B,E,h1,h2,h3,h4,h5,h6,fun j u hu=>?_,fun j u hu=>?_,?_,?_⟩
 ·have hj:=(List.getElem?_eq_some_iff.mp hu).1
  rw[Nat.add_assoc,Nat.add_comm 2 j]
  refine hr (j+2) u ?_
  show (xs ++ (ys ++ [B,E,Zi l,Zi c]))[j]? = _
  rw[List.getElem?_append_left hj]
  exact hu
 ·have hj:=(List.getElem?_eq_some_iff.mp hu).1
  rw[Nat.add_assoc,show 9+j=(7+j)+2 by omega]
  refine hr (7+j+2) u ?_
  show (xs ++ (ys ++ [B,E,Zi l,Zi c]))[7+j]? = _
  rw[List.getElem?_append_right (by omega),h1,show 7+j - 7=j by omega,List.getElem?_append_left hj]
  exact hu
 ·refine hr 16 B ?_
  show (xs ++ (ys ++ [B,E,Zi l,Zi c]))[14]? = _
  rw[List.getElem?_append_right (by omega),h1,List.getElem?_append_right (by omega),h2]
  rfl
 ·refine hr 17 E ?_
  show (xs ++ (ys ++ [B,E,Zi l,Zi c]))[15]? = _
  rw[List.getElem?_append_right (by omega),h1,List.getElem?_append_right (by omega),h2]
  rfl
def ScarsB (P:Nat→Prop) (U:World) (v:Value):Prop:=Calls Tryz.prog 24 #[v] U fun e w'=>e=.returned (.tuple #[])∧Scr P U w'
theorem scar_bwalk (P:Nat→Prop) (W:World) (hP:∀k,P k→k < W.heap.size) (A:Value) (R:World→Value→Prop) (hrow:RowX P W 117 A (StX P W (R W))) (hRs:∀U U' b,Scr P U U'→R U b→R U' b) (hRn:∀U,R U (Zn)) (hcall:A≠Zn→∀U b,(∀k,P k→k < U.heap.size)→R U b→ScarsB P U b):ScarsB P W A:=by
 unfold ScarsB at hcall ⊢
 obtain⟨ao,m,q,rfl,hm9,_⟩:=hrow.rowG (W0:=W)
 have HR:Hid (∀U,Scr P W U→RowX P U 117 (.slice ao m q) (StX P U (R U))):=Zh fun U hU=>hrow.scr hU (fun a h=>stx_scr hU (fun b hb=>hRs W U b hU hb) h) (fun b hb=>by obtain⟨k,rfl⟩:=blank_s hb;exact stx_blank (hRn U) k)
 have HP:Hid (∀U,Scr P W U→∀k,P k→k < U.heap.size):=Zh fun U hU k hk=>Nat.lt_of_lt_of_le (hP k hk) hU.size
 have HC:=Zh hcall
 clear hrow hcall hRs hRn hP
 go_enter Tryz.func24,Tryz.ntmps24
 go_wp2_with fail
 go_loopw[2] (fun x wr=>∃(i:Nat),i≤m∧x=Zi (i:Int)∧Scr P W wr) (fun x _=>m - (intOf x).toNat)
 case atStart=>exact⟨0,Nat.zero_le _,rfl,Scr.refl _ _⟩
 case round=>
  obtain⟨i,hi,rfl,hsr⟩:=hrel
  have HSr:=Zh hsr
  by_cases hlt:i < m
  ·obtain⟨g,cs,hao,_,_,_,xs,ys,B,E,hx1,_,hx2,_,_,_,rx,_,_,_⟩:=st_at (HR.out wr hsr) hlt
   subst hao
   have hib:decide ((i:Int) < (m:Int))=true:=by simp;omega
   have hsz1:(Tryz.prog.info? 66).map (·.size)=some xs.length:=by rw[hx1];kernel_rfl
   obtain⟨d1,hd1⟩:=hx2
   have HC1:=Zh (scar_e P d1 wr xs (HP.out wr hsr) hd1)
   unfold ScarsE at HC1
   clear hd1 hx1 hsr
   go_wp2_with (refine wpList_load_mid rfl 66 _ rfl g (i * 20+2) rfl xs _ rx Tryz.underlying66 rfl hsz1 ?_)
   refine HC1.out.mono ?_
   rintro e w2 ⟨rfl,hs2⟩
   have HS2:=Zh (HSr.out.trans hs2)
   clear hs2 rx hsz1 HC1
   obtain⟨g2,cs2,hao,_,_,_,xs2,ys2,B2,E2,_,hx1,_,hx2,_,_,_,rx,_,_⟩:=st_at (HR.out w2 HS2.out) hlt
   simp only[Option.some.injEq,Addr.mk.injEq,and_true] at hao
   subst hao
   have hsz1:(Tryz.prog.info? 66).map (·.size)=some ys2.length:=by rw[hx1];kernel_rfl
   obtain⟨d1,hd1⟩:=hx2
   have HC1:=Zh (scar_e P d1 w2 ys2 (HP.out w2 HS2.out) hd1)
   unfold ScarsE at HC1
   clear hd1 hx1
   go_wp2_with (refine wpList_load_mid rfl 66 _ rfl g (i * 20+9) rfl ys2 _ rx Tryz.underlying66 rfl hsz1 ?_)
   refine HC1.out.mono ?_
   rintro e w3 ⟨rfl,hs3⟩
   have HS3:=Zh (HS2.out.trans hs3)
   clear hs3 rx hsz1 HC1
   obtain⟨g2,cs2,hao,_,_,_,_,_,B3,E3,_,_,_,_,hb3,_,_,_,c16,_⟩:=st_at (HR.out w3 HS3.out) hlt
   simp only[Option.some.injEq,Addr.mk.injEq,and_true] at hao
   subst hao
   have HC1:=Zh (HC.out (by simp) w3 B3 (HP.out w3 HS3.out) hb3)
   clear hb3
   go_wp2_with fail
   refine HC1.out.mono ?_
   rintro e w4 ⟨rfl,hs4⟩
   have HS4:=Zh (HS3.out.trans hs4)
   clear hs4 c16 HC1
   obtain⟨g2,cs2,hao,_,_,_,_,_,B4,E4,_,_,_,_,_,hb4,_,_,_,c17⟩:=st_at (HR.out w4 HS4.out) hlt
   simp only[Option.some.injEq,Addr.mk.injEq,and_true] at hao
   subst hao
   have HC1:=Zh (HC.out (by simp) w4 E4 (HP.out w4 HS4.out) hb4)
   clear hb4
   go_wp2_with fail
   refine HC1.out.mono ?_
   rintro e w5 ⟨rfl,hs5⟩
   have HS5:=Zh (HS4.out.trans hs5)
   clear hs5 c17 HC1
   obtain⟨g2,cs5,hao,hPg,hgc,hcs,_⟩:=st_at (HR.out w5 HS5.out) hlt
   simp only[Option.some.injEq,Addr.mk.injEq,and_true] at hao
   subst hao
   have hth:w5.there g (i * 20) bnSA.size:=there_of (n:=20) hgc hcs
   have hput:Scr P w5 (w5.setCells g (i * 20) bnSA.toList):=scr_putn (P:=P) (W:=w5) (g:=g) (sz:=20) (T:=117) (cs:=cs5) (i:=i) (b:=bnSA.toList) sz_s hPg hgc (blankS (-1)) hcs
   have HS6:=Zh (HS5.out.trans hput)
   clear hput hgc hcs hPg
   go_wp2_with ((with_reducible (refine wpList_store_mid rfl 117 (.tmp 38) (.tmp 37) rfl g (i * 20) bnSA ?_ ?_ hth ?_ ?_ ?_));(· rfl);(· rfl);(· kernel_rfl);(· kernel_rfl))
   have hre:∃j,j≤m∧Zi ((i:Int)+1)=Zi (j:Int)∧Scr P W (w5.setCells g (i * 20) bnSA.toList):=⟨i+1,by omega,by go_num,HS6.out⟩
   refine⟨?_,?_⟩
   ·repeat refine⟨undef,?_⟩
    exact hre
   ·simp[intOf];omega
  ·have hie:i=m:=by omega
   subst hie
   have hib:decide ((i:Int) < (i:Int))=false:=by simp
   have hgr:RowG P W wr 117 (.slice ao i q) i:=by
    obtain⟨a2,n2,c2,e,_,h⟩:=(HR.out wr hsr).rowG (W0:=W)
    simp only[Value.slice.injEq] at e
    obtain⟨_,rfl,_⟩:=e
    exact h
   have HS0:=Zh hsr
   have HGr:=Zh hgr
   clear hsr hgr
   go_wp2_with fail
   go_loopw[3,4] (fun x y wq=>∃(t r:Nat) (a9:Option Addr) (c9:Nat),t≤20∧r=i+t∧x=.slice a9 r c9∧y=Zi (t:Int)∧Hid (Scr P W wq∧RowG P W wq 117 (.slice a9 r c9) r)) (fun _ y _=>20 - (intOf y).toNat)
   case atStart=>exact⟨0,i,ao,q,by omega,rfl,rfl,rfl,Zh ⟨HS0.out,HGr.out⟩⟩
   case round=>
    obtain⟨t,r,a9,c9,ht,hr,rfl,rfl,HT⟩:=hrel
    by_cases hlt2:t < 20
    ·have hkI:(t:Int) < 20:=by omega
     have HAp:∀ty,∃v' W',(Builtin.append_ #[71,71] ty #[.slice a9 r c9,.slice (some ⟨wr.heap.size,0,none⟩) 1 1]).run Tryz.prog (wr.alloc (.cells #[Zi (-2),Ze,Zi 0,Zi 0,Zi 0,Ze,Zn,Zi 0,Zi 0,Zi 0,Zi 0,Zi 0,Ze,Zn,Zi 0,Zi 0,Zn,Zn,Zi 0,Zi 0] 117))=.ok v' W'∧Scr P W W'∧RowG P W W' 117 v' (r+1)∧∃ao c,v'=.slice ao (r+1) c:=fun ty=>app_step (P:=P) (W0:=W) (W:=wr) (b:=bnS (-2)) stmtE2 HT.out.1 HT.out.2 (by omega) (blankS _) ty
     have HRt:=Zh hr
     clear hr
     go_wp2_with (first
      | (at_builtin;refine wpL_appR rfl _ _ _ rfl _ _ rfl rfl HAp ?_;rintro v9 w9 ⟨hs9,hg9,a10,c10,rfl⟩)
      | fail)
     have HT9:=Zh (And.intro hs9 hg9)
     clear hs9 hg9 HAp
     go_wp2_with fail
     go_roundw
     case rel=>exact⟨t+1,r+1,a10,c10,by omega,by have:=HRt.out;omega,rfl,by go_num,HT9⟩
     case measure=>simp[intOf];omega
    ·have hkI:¬(t:Int) < 20:=by omega
     have HF:=Zh HT.out.1
     clear hr ht hlt2
     go_wp2_with fail
     go_end0
     exact⟨rfl,HF.out⟩
theorem scar_nil (P:Nat→Prop) (W:World) (hP:∀k,P k→k < W.heap.size):ScarsB P W (Zn):=scar_bwalk P W hP _ (fun _ B=>B=Zn) (.inl rfl) (fun _ _ _ _ h=>h) (fun _=>rfl) (fun h=>absurd rfl h)
theorem scar_b (P:Nat→Prop):∀(d:Nat) (W:World) (v:Value),(∀k,P k→k < W.heap.size)→RowX P W 117 v (GSt P W d)→ScarsB P W v
 | 0,W,v,hP,h=>scar_bwalk P W hP v (fun _ B=>B=Zn) h (fun _ _ _ _ h=>h) (fun _=>rfl) (fun _ U b hU hb=>by rw[hb];exact scar_nil P U hU)
 | d+1,W,v,hP,h=>scar_bwalk P W hP v (fun U B=>RowX P U 117 B (GSt P U d)) h (fun U U' b hs hb=>hb.scr hs (gst_scr hs d) (fun b hb=>by obtain⟨k,rfl⟩:=blank_s hb;exact gst_blank d k)) (fun _=>.inl rfl) (fun _ U b hU hb=>scar_b P d U b hU hb)
theorem sz_c:SzT 68=10:=rfl
theorem sz_d:SzT 73=7:=rfl
abbrev bnCA:Array Value:=#[.string ⟨#[45]⟩,Zi 0,Zi 0,Zi 0,Ze,Zn,Zi 0,Zi 0,Zi 0,Zi 0]
abbrev bnDA:Array Value:=#[.string ⟨#[45]⟩,Zn,Zn,Zn,Zn,Zi 0,Zi 0]
theorem blankC (s:ByteArray):Blank 68 (bnC s):=Or.inr (Or.inr (Or.inr (Or.inl ⟨rfl,s,rfl⟩)))
theorem blankD (s:ByteArray):Blank 73 (bnD s):=Or.inr (Or.inr (Or.inr (Or.inr ⟨rfl,s,rfl⟩)))
theorem blank_c {b:List Value} (h:Blank 68 b):∃k,b=bnC k:=by
 rcases h with ⟨h,_⟩ | ⟨h,_⟩ | ⟨h,_⟩ | ⟨_,h⟩ | ⟨h,_⟩
 ·exact absurd h (by decide)
 ·exact absurd h (by decide)
 ·exact absurd h (by decide)
 ·exact h
 ·exact absurd h (by decide)
theorem blank_d {b:List Value} (h:Blank 73 b):∃k,b=bnD k:=by
 rcases h with ⟨h,_⟩ | ⟨h,_⟩ | ⟨h,_⟩ | ⟨h,_⟩ | ⟨_,h⟩
 ·exact absurd h (by decide)
 ·exact absurd h (by decide)
 ·exact absurd h (by decide)
 ·exact absurd h (by decide)
 ·exact h
def CoX (P:Nat→Prop) (W:World) (a:List Value):Prop:=∃(l c:Int) (nm:ByteArray) (xs:List Value),a=.string nm :: (xs ++ [Zi l,Zi c])∧xs.length=7∧GEx P W xs
abbrev RowN (P:Nat→Prop) (W:World) (v:Value):Prop:=RowX P W 89 v (fun _=>True)
def RowB (P:Nat→Prop) (W:World) (v:Value):Prop:=∃d,RowX P W 117 v (GSt P W d)
def PrX (P:Nat→Prop) (W:World) (a:List Value):Prop:=∃(l c:Int) (nm:ByteArray) (A R V B:Value),a=[.string nm,A,R,V,B,Zi l,Zi c]∧RowN P W A∧RowN P W R∧RowN P W V∧RowB P W B
theorem rown_scr {P:Nat→Prop} {W W':World} {v:Value} (h:RowN P W v) (hs:Scr P W W'):RowN P W' v:=h.scr hs (fun _ h=>h) (fun _ _=>trivial)
theorem rowb_scr {P:Nat→Prop} {W W':World} {v:Value} (h:RowB P W v) (hs:Scr P W W'):RowB P W' v:=h.elim fun d h=>⟨d,h.scr hs (gst_scr hs d) (fun b hb=>by obtain⟨k,rfl⟩:=blank_s hb;exact gst_blank d k)⟩
theorem cox_scr {P:Nat→Prop} {W W':World} (hs:Scr P W W') (a:List Value) (h:CoX P W a):CoX P W' a:=by
 obtain⟨l,c,nm,xs,e,h1,d,h2⟩:=h
 exact⟨l,c,nm,xs,e,h1,d,ge_scr hs d _ h2⟩
theorem prx_scr {P:Nat→Prop} {W W':World} (hs:Scr P W W') (a:List Value) (h:PrX P W a):PrX P W' a:=by
 obtain⟨l,c,nm,A,R,V,B,e,h1,h2,h3,h4⟩:=h
 exact⟨l,c,nm,A,R,V,B,e,rown_scr h1 hs,rown_scr h2 hs,rown_scr h3 hs,rowb_scr h4 hs⟩
theorem rowc_scr {P:Nat→Prop} {W W':World} {v:Value} (h:RowX P W 68 v (CoX P W)) (hs:Scr P W W'):RowX P W' 68 v (CoX P W'):=h.scr hs (cox_scr hs) (fun b hb=>by obtain⟨k,rfl⟩:=blank_c hb;exact⟨0,0,k,bnE 0,rfl,rfl,0,0,rfl⟩)
theorem rowd_scr {P:Nat→Prop} {W W':World} {v:Value} (h:RowX P W 73 v (PrX P W)) (hs:Scr P W W'):RowX P W' 73 v (PrX P W'):=h.scr hs (prx_scr hs) (fun b hb=>by obtain⟨k,rfl⟩:=blank_d hb;exact⟨0,0,k,_,_,_,_,rfl,.inl rfl,.inl rfl,.inl rfl,0,.inl rfl⟩)
theorem cx_at {P:Nat→Prop} {W:World} {m q i:Nat} {ao:Option Addr} (h:RowX P W 68 (.slice ao m q) (CoX P W)) (hi:i < m):∃(g:Nat) (cs:Array Value),ao=some ⟨g,0,none⟩∧P g∧W.heap[g]? = some (.cells cs 68 (0,0))∧i * 10+10≤cs.size∧∃xs:List Value,xs.length=7∧GEx P W xs∧W.rangeAt g (i * 10+1) xs:=by
 obtain⟨g,cs,e,hP,hc,hl,a,ha,hr,l,c,nm,xs,rfl,h1,h2⟩:=rowx_at sz_c h hi
 refine⟨g,cs,e,hP,hc,hl,xs,h1,h2,fun j u hu=>?_⟩
 have hj:=(List.getElem?_eq_some_iff.mp hu).1
 rw[Nat.add_assoc,Nat.add_comm 1 j]
 refine hr (j+1) u ?_
 show (xs ++ [Zi l,Zi c])[j]? = _
 rw[List.getElem?_append_left hj]
 exact hu
theorem px_at {P:Nat→Prop} {W:World} {m q i:Nat} {ao:Option Addr} (h:RowX P W 73 (.slice ao m q) (PrX P W)) (hi:i < m):∃(g:Nat) (cs:Array Value),ao=some ⟨g,0,none⟩∧P g∧W.heap[g]? = some (.cells cs 73 (0,0))∧i * 7+7≤cs.size∧∃(A R V B:Value),RowN P W A∧RowN P W R∧RowN P W V∧RowB P W B∧W.cell? ⟨g,i * 7+1,none⟩=some A∧W.cell? ⟨g,i * 7+2,none⟩=some R∧W.cell? ⟨g,i * 7+3,none⟩=some V∧W.cell? ⟨g,i * 7+4,none⟩=some B:=by
 obtain⟨g,cs,e,hP,hc,hl,a,ha,hr,l,c,nm,A,R,V,B,rfl,h1,h2,h3,h4⟩:=rowx_at sz_d h hi
 exact⟨g,cs,e,hP,hc,hl,A,R,V,B,h1,h2,h3,h4,hr 1 _ rfl,hr 2 _ rfl,hr 3 _ rfl,hr 4 _ rfl⟩
theorem scar_src (P:Nat→Prop) (W:World) (hP:∀k,P k→k < W.heap.size) (cv pv:Value) (hc:RowX P W 68 cv (CoX P W)) (hp:RowX P W 73 pv (PrX P W)):Calls Tryz.prog 8 #[.agg #[cv,pv]] W fun e w'=>e=.returned (.tuple #[])∧Scr P W w':=by
 obtain⟨ca,m,cq,rfl,hm9,_⟩:=hc.rowG (W0:=W)
 obtain⟨pa,n,pq,rfl,hn9,_⟩:=hp.rowG (W0:=W)
 obtain⟨W1,hW1⟩:=nm (W.alloc (.cells #[.slice ca m cq,.slice pa n pq] 25))
 obtain⟨B,hB⟩:=nm (W.heap.size)
 have hb1:Below W.heap.size W W1:=by rw[hW1];exact bel_al _ _
 have hx:RowS W1 B (.slice ca m cq) (.slice pa n pq):=by rw[hW1,hB];exact heap_alloc_new _ _ rfl
 have hs1:Scr P W W1:=Scr.bel hb1
 have hnB:¬P B:=fun h=>by have:=hP B h;omega
 have HX:Hid (∀U,Scr P W1 U→U.cell? ⟨B,0,none⟩=some (.slice ca m cq)∧U.cell? ⟨B,1,none⟩=some (.slice pa n pq)):=Zh fun U hU=>by
  have h:RowS U B (.slice ca m cq) (.slice pa n pq):=(hU.out B (blk_lt hx) hnB).trans hx
  exact h.cells
 have HR:Hid (∀U,Scr P W1 U→RowX P U 68 (.slice ca m cq) (CoX P U)):=Zh fun U hU=>rowc_scr hc (hs1.trans hU)
 have HD:Hid (∀U,Scr P W1 U→RowX P U 73 (.slice pa n pq) (PrX P U)):=Zh fun U hU=>rowd_scr hp (hs1.trans hU)
 have HP:Hid (∀U,Scr P W1 U→∀k,P k→k < U.heap.size):=Zh fun U hU k hk=>Nat.lt_of_lt_of_le (hP k hk) (Nat.le_trans hs1.size hU.size)
 have HS1:=Zh hs1
 obtain⟨z0,z1⟩:=HX.out W1 (Scr.refl _ _)
 clear hb1 hx hs1 hnB hc hp hP
 go_enter Tryz.func8,Tryz.ntmps8
 go_upto_region 1 with fail
 rw[← hW1,← hB]
 clear hW1 hB
 go_wp2_with fail
 clear z0 z1
 go_loopw[2] (fun x wr=>∃(i:Nat),i≤m∧x=Zi (i:Int)∧Scr P W1 wr) (fun x _=>m - (intOf x).toNat)
 case atStart=>exact⟨0,Nat.zero_le _,rfl,Scr.refl _ _⟩
 case round=>
  obtain⟨i,hi,rfl,hsr⟩:=hrel
  have HSr:=Zh hsr
  obtain⟨z0,z1⟩:=HX.out wr hsr
  clear z1
  by_cases hlt:i < m
  ·obtain⟨g,cs,hao,_,_,_,xs,hx1,hx2,rx⟩:=cx_at (HR.out wr hsr) hlt
   subst hao
   have hib:decide ((i:Int) < (m:Int))=true:=by simp;omega
   have hsz1:(Tryz.prog.info? 66).map (·.size)=some xs.length:=by rw[hx1];kernel_rfl
   obtain⟨d1,hd1⟩:=hx2
   have HC1:=Zh (scar_e P d1 wr xs (HP.out wr hsr) hd1)
   unfold ScarsE at HC1
   clear hd1 hx1 hsr
   go_wp2_with (refine wpList_load_mid rfl 66 _ rfl g (i * 10+1) rfl xs _ rx Tryz.underlying66 rfl hsz1 ?_)
   refine HC1.out.mono ?_
   rintro e w2 ⟨rfl,hs2⟩
   have HS2:=Zh (HSr.out.trans hs2)
   clear hs2 rx hsz1 HC1 z0
   obtain⟨z0,z1⟩:=HX.out w2 HS2.out
   clear z1
   obtain⟨g2,cs2,hao,hPg,hgc,hcs,_⟩:=cx_at (HR.out w2 HS2.out) hlt
   simp only[Option.some.injEq,Addr.mk.injEq,and_true] at hao
   subst hao
   have hth:w2.there g (i * 10) bnCA.size:=there_of (n:=10) hgc hcs
   have hput:Scr P w2 (w2.setCells g (i * 10) bnCA.toList):=scr_putn (P:=P) (W:=w2) (g:=g) (sz:=10) (T:=68) (cs:=cs2) (i:=i) (b:=bnCA.toList) sz_c hPg hgc (blankC _) hcs
   have HS6:=Zh (HS2.out.trans hput)
   clear hput hgc hcs hPg
   go_wp2_with ((with_reducible (refine wpList_store_mid rfl 68 (.tmp 22) (.tmp 21) rfl g (i * 10) bnCA ?_ ?_ hth ?_ ?_ ?_));(· rfl);(· rfl);(· kernel_rfl);(· kernel_rfl))
   have hre:∃j,j≤m∧Zi ((i:Int)+1)=Zi (j:Int)∧Scr P W1 (w2.setCells g (i * 10) bnCA.toList):=⟨i+1,by omega,by go_num,HS6.out⟩
   refine⟨?_,?_⟩
   ·repeat refine⟨undef,?_⟩
    exact hre
   ·simp[intOf];omega
  ·have hie:i=m:=by omega
   subst hie
   have hib:decide ((i:Int) < (i:Int))=false:=by simp
   go_wp2_with fail
   clear z0 hib hsr
   have HSq:=HSr
   go_loopw[3] (fun x ws=>∃(i:Nat),i≤n∧x=Zi (i:Int)∧Scr P W1 ws) (fun x _=>n - (intOf x).toNat)
   case atStart=>exact⟨0,Nat.zero_le _,rfl,HSq.out⟩
   case round=>
    obtain⟨i,hi,rfl,hsr⟩:=hrel
    have HSr:=Zh hsr
    obtain⟨z0,z1⟩:=HX.out wr hsr
    clear z0
    by_cases hlt:i < n
    ·obtain⟨g,cs,hao,_,_,_,A1,A2,A3,A4,hr1,_,_,_,c1,_,_,_⟩:=px_at (HD.out wr hsr) hlt
     subst hao
     have hib:decide ((i:Int) < (n:Int))=true:=by simp;omega
     have HC1:=Zh (scar_n P wr A1 hr1)
     clear hr1 hsr
     go_wp2_with fail
     refine HC1.out.mono ?_
     rintro e w2 ⟨rfl,hs2⟩
     have HS2:=Zh (HSr.out.trans hs2)
     clear hs2 c1 HC1 z1
     obtain⟨z0,z1⟩:=HX.out w2 HS2.out
     clear z0
     obtain⟨g2,cs2,hao,_,_,_,B1,B2,B3,B4,_,hr1,_,_,_,c1,_,_⟩:=px_at (HD.out w2 HS2.out) hlt
     simp only[Option.some.injEq,Addr.mk.injEq,and_true] at hao
     subst hao
     have HC1:=Zh (scar_n P w2 B2 hr1)
     clear hr1
     go_wp2_with fail
     refine HC1.out.mono ?_
     rintro e w3 ⟨rfl,hs3⟩
     have HS3:=Zh (HS2.out.trans hs3)
     clear hs3 c1 HC1 z1
     obtain⟨z0,z1⟩:=HX.out w3 HS3.out
     clear z0
     obtain⟨g2,cs3,hao,_,_,_,C1,C2,C3,C4,_,_,hr1,_,_,_,c1,_⟩:=px_at (HD.out w3 HS3.out) hlt
     simp only[Option.some.injEq,Addr.mk.injEq,and_true] at hao
     subst hao
     have HC1:=Zh (scar_n P w3 C3 hr1)
     clear hr1
     go_wp2_with fail
     refine HC1.out.mono ?_
     rintro e w4 ⟨rfl,hs4⟩
     have HS4:=Zh (HS3.out.trans hs4)
     clear hs4 c1 HC1 z1
     obtain⟨z0,z1⟩:=HX.out w4 HS4.out
     clear z0
     obtain⟨g2,cs4,hao,_,_,_,D1,D2,D3,D4,_,_,_,⟨d1,hr1⟩,_,_,_,c1⟩:=px_at (HD.out w4 HS4.out) hlt
     simp only[Option.some.injEq,Addr.mk.injEq,and_true] at hao
     subst hao
     have HC1:=Zh (scar_b P d1 w4 D4 (HP.out w4 HS4.out) hr1)
     unfold ScarsB at HC1
     clear hr1
     go_wp2_with fail
     refine HC1.out.mono ?_
     rintro e w5 ⟨rfl,hs5⟩
     have HS5:=Zh (HS4.out.trans hs5)
     clear hs5 c1 HC1 z1
     obtain⟨z0,z1⟩:=HX.out w5 HS5.out
     clear z0
     obtain⟨g2,cs5,hao,hPg,hgc,hcs,_⟩:=px_at (HD.out w5 HS5.out) hlt
     simp only[Option.some.injEq,Addr.mk.injEq,and_true] at hao
     subst hao
     have hth:w5.there g (i * 7) bnDA.size:=there_of (n:=7) hgc hcs
     have hput:Scr P w5 (w5.setCells g (i * 7) bnDA.toList):=scr_putn (P:=P) (W:=w5) (g:=g) (sz:=7) (T:=73) (cs:=cs5) (i:=i) (b:=bnDA.toList) sz_d hPg hgc (blankD _) hcs
     have HS6:=Zh (HS5.out.trans hput)
     clear hput hgc hcs hPg
     go_wp2_with ((with_reducible (refine wpList_store_mid rfl 73 (.tmp 62) (.tmp 61) rfl g (i * 7) bnDA ?_ ?_ hth ?_ ?_ ?_));(· rfl);(· rfl);(· kernel_rfl);(· kernel_rfl))
     have hre:∃j,j≤n∧Zi ((i:Int)+1)=Zi (j:Int)∧Scr P W1 (w5.setCells g (i * 7) bnDA.toList):=⟨i+1,by omega,by go_num,HS6.out⟩
     refine⟨?_,?_⟩
     ·repeat refine⟨undef,?_⟩
      exact hre
     ·simp[intOf];omega
    ·have hie:i=n:=by omega
     subst hie
     have hib:decide ((i:Int) < (i:Int))=false:=by simp
     have HF:=Zh (HS1.out.trans hsr)
     go_wp2_with fail
     go_end0
     exact⟨rfl,HF.out⟩
theorem RowX.mono {P:Nat→Prop} {W:World} {T:TypeId} {v:Value} {G G':List Value→Prop} (h:RowX P W T v G) (hG:∀a,G a→G' a):RowX P W T v G':=by
 rcases h with h | ⟨g,m,q,cs,e,h1,h2,h3,h4,h5,h6,h7⟩
 ·exact .inl h
 ·exact .inr ⟨g,m,q,cs,e,h1,h2,h3,h4,h5,h6,fun i hi=>by
   obtain⟨a,ha,hr,hg⟩:=h7 i hi
   exact⟨a,ha,hr,hG a hg⟩⟩
theorem ge_up {P:Nat→Prop} {W:World} : ∀(d:Nat) (a:List Value),GE P W d a→GE P W (d+1) a
 | 0,a,⟨k,e⟩=>by rw[e];exact ge_blank 1 k
 | d+1,a,⟨k,o,n,l,c,s,A,e,h⟩=>⟨k,o,n,l,c,s,A,e,h.mono (ge_up d)⟩
theorem ge_le {P:Nat→Prop} {W:World} {d d':Nat} (h:d≤d') {a:List Value} (hg:GE P W d a):GE P W d' a:=by
 induction h with
 | refl=>exact hg
 | step _ ih=>exact ge_up _ _ ih
theorem one_depth {α:Type} {Q:α→Nat→Prop} (hm:∀x d d',d≤d'→Q x d→Q x d'):∀(l:List α),(∀x,x∈l→∃d,Q x d)→∃D,∀x,x∈l→Q x D
 | [],_=>⟨0,fun x h=>by cases h⟩
 | y :: r,h=>by
  obtain⟨d1,h1⟩:=h y (List.mem_cons_self ..)
  obtain⟨d2,h2⟩:=one_depth hm r (fun x hx=>h x (List.mem_cons_of_mem _ hx))
  refine⟨max d1 d2,fun x hx=>?_⟩
  rcases List.mem_cons.mp hx with rfl | hx
  ·exact hm _ _ _ (Nat.le_max_left _ _) h1
  ·exact hm _ _ _ (Nat.le_max_right _ _) (h2 x hx)
theorem exs_len {P:Nat→Prop} {W:World} : ∀{xs:List Ex} {cs:List Value},ExsC P W xs cs→cs.length=xs.length * 7
 | _,_,.nil=>rfl
 | _,_,.cons _ _ _ _ _ _ _ _ _ _ h=>by
  have:=exs_len h
  simp only[List.length_cons]
  omega
def DepE (x:Ex) (d:Nat):Prop:=∀(P:Nat→Prop) (W:World) (a:List Value),okE P x (.agg a.toArray) W→GE P W d a
theorem arc_row {P:Nat→Prop} {W:World} {xs:List Ex} {v:Value} {D:Nat} (hD:∀x,x∈xs→DepE x D) (hl:xs.length≤70000) (h:ArC P W xs v):RowX P W 66 v (GE P W D):=by
 have h0:=h
 cases h with
 | none=>exact .inl rfl
 | row g xs cs hp hg hx=>
  refine .inr ⟨g,_,_,cs.toArray,rfl,hp,by omega,Nat.le_refl _,by unfold maxLen;omega,hg,by rw[sz_e,List.size_toArray,exs_len hx],fun i hi=>?_⟩
  obtain⟨g2,v0,v1,v2,v3,v4,v5,v6,e,ho,c0,c1,c2,c3,c4,c5,c6⟩:=arc_at h0 hi
  simp only[Value.slice.injEq,Option.some.injEq,Addr.mk.injEq,and_true] at e
  subst e
  refine⟨[v0,v1,v2,v3,v4,v5,v6],rfl,fun j u hu=>?_,hD _ (List.getElem_mem hi) P W _ ho⟩
  rw[sz_e]
  match j,hu with
  | 0,hu=>cases hu;exact c0
  | 1,hu=>cases hu;exact c1
  | 2,hu=>cases hu;exact c2
  | 3,hu=>cases hu;exact c3
  | 4,hu=>cases hu;exact c4
  | 5,hu=>cases hu;exact c5
  | 6,hu=>cases hu;exact c6
  | j+7,hu=>cases hu
theorem dep_e {x:Ex} (h:BdE x):∃d,DepE x d:=by
 induction h with
 | mk k op n nm args p hl _ ih=>
  obtain⟨D,hD⟩:=one_depth (Q:=DepE) (fun x d d' hd hq P W a ho=>ge_le hd (hq P W a ho)) args ih
  refine⟨D+1,fun P W a ho=>?_⟩
  obtain⟨A,e,hA⟩:=ho
  have e:=toA e
  subst e
  exact⟨_,_,_,_,_,_,_,rfl,arc_row hD hl hA⟩
inductive BdT:St→Prop where
 | mk (k:Nat) (nm:List UInt8) (x y:Ex) (body els:List St) (p:Nat × Nat):BdE x→BdE y→body.length≤5000000→els.length≤5000000→(∀s,s∈body→BdT s)→(∀s,s∈els→BdT s)→BdT (.mk k nm x y body els p)
def DepS (s:St) (d:Nat):Prop:=∀(P:Nat→Prop) (W:World) (a:List Value),StsC P W [s] a→GSt P W d a
theorem gst_up {P:Nat→Prop} {W:World} : ∀(d:Nat) (a:List Value),GSt P W d a→GSt P W (d+1) a
 | 0,_,h=>stx_scr (Scr.refl P W) (fun _ hB=>.inl hB) h
 | d+1,_,h=>stx_scr (Scr.refl P W) (fun _ hB=>hB.mono (gst_up d)) h
theorem gst_le {P:Nat→Prop} {W:World} {d d':Nat} (h:d≤d') {a:List Value} (hg:GSt P W d a):GSt P W d' a:=by
 induction h with
 | refl=>exact hg
 | step _ ih=>exact gst_up _ _ ih
theorem rws_row {P:Nat→Prop} {W:World} {l:List St} {v:Value} {D:Nat} (hD:∀x,x∈l→DepS x D) (hl:l.length≤5000000) (h:RwS P W l v):RowX P W 117 v (GSt P W D):=by
 have h0:=h
 cases h with
 | row v l cs h1 h2 h3=>
  obtain⟨hl1,⟨e,_⟩ | ⟨g,c,cur,rfl,_,hg,hn,hc,hs,_⟩⟩:=h1
  ·exact .inl e
  ·refine .inr ⟨g,_,c,cur,rfl,h2 g rfl,hl,hn,hc,hg,hs,fun i hi=>?_⟩
   obtain⟨g2,c2,vs,e,hv,hr⟩:=rws_at h0 hi
   simp only[Value.slice.injEq,Option.some.injEq,Addr.mk.injEq,and_true,true_and] at e
   obtain⟨rfl,_⟩:=e
   exact⟨vs,by rw[StsC.len hv];rfl,hr,hD _ (List.getElem_mem hi) P W vs hv⟩
theorem dep_s {s:St} (h:BdT s):∃d,DepS s d:=by
 induction h with
 | mk k nm x y body els p hx hy hlb hle _ _ ihb ihe=>
  have hm:∀(x:St) (d d':Nat),d≤d'→DepS x d→DepS x d':=fun x d d' hd hq P W a ho=>gst_le hd (hq P W a ho)
  obtain⟨D1,h1⟩:=one_depth hm body ihb
  obtain⟨D2,h2⟩:=one_depth hm els ihe
  obtain⟨d1,e1⟩:=dep_e hx
  obtain⟨d2,e2⟩:=dep_e hy
  refine⟨max D1 D2+1,fun P W a ho=>?_⟩
  obtain⟨x0,x1,x2,x3,x4,x5,x6,y0,y1,y2,y3,y4,y5,y6,B,E,rfl,hx,hy,hb,he⟩:=sts_one ho
  exact⟨_,_,_,_,[x0,x1,x2,x3,x4,x5,x6],[y0,y1,y2,y3,y4,y5,y6],B,E,rfl,rfl,rfl,⟨d1,e1 P W _ hx⟩,⟨d2,e2 P W _ hy⟩,rws_row (fun x hx=>hm _ _ _ (Nat.le_max_left _ _) (h1 x hx)) hlb hb,rws_row (fun x hx=>hm _ _ _ (Nat.le_max_right _ _) (h2 x hx)) hle he⟩
structure BdR (s:SrcS):Prop where
 nc:s.consts.length≤5000000
 np:s.procs.length≤5000000
 co:∀c,c∈s.consts→BdE c.2.1
 pr:∀p,p∈s.procs→p.args.length≤5000000∧p.reads.length≤5000000∧p.writes.length≤5000000∧p.body.length≤5000000∧∀t,t∈p.body→BdT t
theorem ns_row {P:Nat→Prop} {W:World} {l:List NmP} {v:Value} (hl:l.length≤5000000) (h:okNs P l v W):RowN P W v:=by
 obtain⟨⟨_,⟨e,_⟩ | ⟨g,c,cur,rfl,_,hg,hn,hc,hs,_⟩⟩,h2⟩:=h
 ·exact .inl e
 ·refine .inr ⟨g,_,c,cur,rfl,h2 g rfl,hl,hn,hc,hg,hs,fun i hi=>?_⟩
  have hin:i * 3+3≤cur.size:=by
   rw[hs]
   omega
  have hcell:∀x,W.cell? ⟨g,x,none⟩=cur[x]?:=fun x=>by simp[World.cell?,hg]
  refine⟨[cur[i * 3],cur[i * 3+1],cur[i * 3+2]],rfl,fun j u hu=>?_,trivial⟩
  rw[sz_n,hcell]
  match j,hu with
  | 0,hu=>cases hu;exact Array.getElem?_eq_getElem _
  | 1,hu=>cases hu;exact Array.getElem?_eq_getElem _
  | 2,hu=>cases hu;exact Array.getElem?_eq_getElem _
  | j+3,hu=>cases hu
theorem els_row {α:Type} {okv:(Nat→Prop)→α→Value→World→Prop} {T sz:Nat} {P:Nat→Prop} {W:World} {l:List α} {cs:List Value} {v:Value} {G:List Value→Prop} (hsz:SzT T=sz) (h:W.ownsRow 0 T sz v l.length cs) (hP:∀g,v.ownBlock=some g→P g) (he:Els okv sz P W l cs) (hl:l.length≤5000000) (hG:∀x a,x∈l→okv P x (.agg (List.toArray a)) W→a.length=sz∧G a):RowX P W T v G:=by
 subst hsz
 have h0:=h
 obtain⟨_,⟨e,_⟩ | ⟨g,c,cur,rfl,_,hg,hn,hc,hs,_⟩⟩:=h
 ·exact .inl e
 ·refine .inr ⟨g,_,c,cur,rfl,hP g rfl,hl,hn,hc,hg,hs,fun i hi=>?_⟩
  obtain⟨g2,c2,a,e,hv,hr⟩:=row_els h0 he hi
  simp only[Value.slice.injEq,Option.some.injEq,Addr.mk.injEq,and_true,true_and] at e
  obtain⟨rfl,_⟩:=e
  obtain⟨h1,h2⟩:=hG _ a (List.getElem_mem hi) hv
  exact⟨a,h1,hr,h2⟩
theorem src_rows {P:Nat→Prop} {W:World} {s:SrcS} {cv pv:Value} (hb:BdR s) (h:okSrc P s (.agg #[cv,pv]) W):RowX P W 68 cv (CoX P W)∧RowX P W 73 pv (PrX P W):=by
 obtain⟨cv',pv',cs,ps,e,h1,h2,h3,h4,h5,h6⟩:=h
 have e:=toA (a:=[cv,pv]) (b:=[cv',pv']) e
 simp only[List.cons.injEq,and_true] at e
 obtain⟨rfl,rfl⟩:=e
 refine⟨els_row sz_c h1 h3 h5 hb.nc fun x a hx ho=>?_,els_row sz_d h2 h4 h6 hb.np fun x a hx ho=>?_⟩
 ·obtain⟨x0,x1,x2,x3,x4,x5,x6,e,hv⟩:=ho
  have e:=toA e
  subst e
  obtain⟨d,hd⟩:=dep_e (hb.co x hx)
  exact⟨rfl,_,_,_,[x0,x1,x2,x3,x4,x5,x6],rfl,rfl,d,hd P W _ hv⟩
 ·obtain⟨a0,r0,w0,b0,e,k1,k2,k3,k4⟩:=ho
  have e:=toA e
  subst e
  obtain⟨l1,l2,l3,l4,l5⟩:=hb.pr x hx
  obtain⟨D,hD⟩:=one_depth (Q:=DepS) (fun x d d' hd hq P W a ho=>gst_le hd (hq P W a ho)) x.body (fun t ht=>dep_s (l5 t ht))
  exact⟨rfl,_,_,_,a0,r0,w0,b0,rfl,ns_row l1 k1,ns_row l2 k2,ns_row l3 k3,D,rws_row hD l4 k4⟩
end Go.Proofs.YtlfooogmoigpfaaGreatDoor
namespace Go.Proofs.YtlfooogmoigpfaaGreatDoor
theorem Good.also {α β:Type} {Q:α→Prop} {Q':β→Prop} {n:Nat} {a:PR α} {f:α→List Tok→PR β} (h:Good Q a) (hs:Shr n a) (hf:∀x r,Q x→r.length≤n→Good Q' (f x r)):Good Q' (a.bind f):=by
 cases a with
 | ok x r=>exact hf x r h hs
 | er p e=>trivial
def AllT (l:List St):Prop:=∀s,s∈l→BdT s
theorem allt_nil:AllT []:=fun s h=>by cases h
theorem bdt_of {k:Nat} {nm:List UInt8} {x y:Ex} {p:Nat × Nat} (hx:BdE x) (hy:BdE y):BdT (.mk k nm x y [] [] p):=.mk k nm x y [] [] p hx hy (by simp) (by simp) allt_nil allt_nil
theorem as_t (en:Nat × Nat) (nest kind:Nat) (at_:Nat × Nat) (ts:List Tok):Good BdT (pAs en nest kind at_ ts):=by
 unfold pAs
 exact (Good.any _).bind fun nm r _=>(Good.any _).bind fun _ r2 _=>(w_good en nest r2).bind fun x r3 hx=>bdt_of hx ex0_good
theorem si_t (en:Nat × Nat) (nest:Nat) (ts:List Tok):Good BdT (pSi en nest ts):=by
 unfold pSi
 split
 ·exact as_t _ _ _ _ _
 ·split
  ·split
   ·exact (br_good (w_good _ _ _)).bind fun x r hx=>(Good.any _).bind fun _ r2 _=>(w_good en nest r2).bind fun y r3 hy=>bdt_of hx hy
   ·exact as_t _ _ _ _ _
  ·split
   ·exact (Good.any _).bind fun nm r _=>bdt_of ex0_good ex0_good
   ·split
    ·exact (w_good _ _ _).bind fun x r hx=>bdt_of hx ex0_good
    ·split
     ·exact (w_good _ _ _).bind fun x r hx=>bdt_of hx ex0_good
     ·split
      ·exact bdt_of ex0_good ex0_good
      ·exact as_t _ _ _ _ _
theorem st_t (en:Nat × Nat):∀f,f≤5000000→(∀nest acc ts,AllT acc→Good (fun l=>AllT l∧l.length≤acc.length+f) (pSs en f nest acc ts))∧(∀nest ts,Good BdT (pSt en f nest ts))∧(∀nest at_ ts,Good BdT (pCo en f nest at_ ts)):=by
 intro f
 induction f with
 | zero=>exact fun _=>⟨fun _ _ _ _=>by simp only[pSs];trivial,fun _ _=>by simp only[pSt];trivial,fun _ _ _=>by simp only[pCo];trivial⟩
 | succ f ih=>
  intro hf
  obtain⟨iS,iT,iC⟩:=ih (by omega)
  have iN:∀nest ts,Good (fun l=>AllT l∧l.length≤5000000) (pSs en f nest [] ts):=fun nest ts=>by
   have h:=iS nest [] ts allt_nil
   generalize pSs en f nest [] ts=q at h
   cases q with
   | er p e=>trivial
   | ok x r=>
    have h1:x.length≤0+f:=h.2
    exact⟨h.1,by omega⟩
  refine⟨?_,?_,?_⟩
  ·intro nest acc ts ha
   simp only[pSs]
   split
   ·exact⟨ha,by omega⟩
   ·refine (iT nest ts).bind fun s r hs=>?_
    have h:=iS nest (acc ++ [s]) r (fun t ht=>by
     rcases List.mem_append.mp ht with h | h
     ·exact ha t h
     ·rw[List.mem_singleton.mp h];exact hs)
    generalize pSs en f nest (acc ++ [s]) r=q at h
    cases q with
    | er p e=>trivial
    | ok x r=>
     have h1:x.length≤(acc ++ [s]).length+f:=h.2
     rw[List.length_append,List.length_singleton] at h1
     exact⟨h.1,by omega⟩
  ·intro nest ts
   simp only[pSt]
   split
   ·exact iC _ _ _
   ·split
    ·exact (w_good _ _ _).bind fun x r hx=>(br_good (iN _ _)).bind fun b r2 hb=>.mk _ _ _ _ _ _ _ hx ex0_good hb.2 (by simp) hb.1 allt_nil
    ·exact (si_t _ _ _).bind fun s r hs=>(Good.any _).bind fun _ r2 _=>hs
  ·intro nest at_ ts
   simp only[pCo]
   refine (w_good _ _ _).bind fun x r hx=>(br_good (iN _ _)).bind fun b r2 hb=>?_
   split
   ·split
    ·exact (open_good (iC _ _ _)).bind fun s r4 hs=>.mk _ _ _ _ _ _ _ hx ex0_good hb.2 (by simp) hb.1 (fun t ht=>by rw[List.mem_singleton.mp ht];exact hs)
    ·exact (br_good (iN _ _)).bind fun e r4 he=>.mk _ _ _ _ _ _ _ hx ex0_good hb.2 he.2 hb.1 he.1
   ·exact .mk _ _ _ _ _ _ _ hx ex0_good hb.2 (by simp) hb.1 allt_nil
theorem blk_t (en:Nat × Nat) (nest:Nat) (ts:List Tok) (hn:ts.length≤65536):Good (fun l=>AllT l∧l.length≤5000000) (pBlk en nest ts):=by
 unfold pBlk
 refine br_good ?_
 have h:=(st_t en (20 * ts.length+20) (by omega)).1 (nest+1) [] ts.tail allt_nil
 generalize pSs en (20 * ts.length+20) (nest+1) [] ts.tail=q at h
 cases q with
 | er p e=>trivial
 | ok x r=>
  have h1:x.length≤0+(20 * ts.length+20):=h.2
  exact⟨h.1,by omega⟩
theorem ns_t (en:Nat × Nat):∀(f:Nat) (acc:List NmP) (ts:List Tok),Good (fun l=>l.length≤acc.length+f) (pNs en f acc ts)
 | 0,_,_=>by simp only[pNs];trivial
 | f+1,acc,ts=>by
  simp only[pNs]
  split
  ·refine (Good.any _).bind fun nm r _=>?_
   have h:=ns_t en f (acc ++ [nm]) r
   generalize pNs en f (acc ++ [nm]) r=q at h
   cases q with
   | er p e=>trivial
   | ok x r=>
    have h1:x.length≤(acc ++ [nm]).length+f:=h
    rw[List.length_append,List.length_singleton] at h1
    show x.length≤acc.length+(f+1)
    omega
  ·show acc.length≤acc.length+(f+1)
   omega
theorem names_t (en:Nat × Nat) (ts:List Tok) (hn:ts.length≤65536):Good (fun l=>l.length≤5000000) (pNames en ts):=by
 unfold pNames
 refine (Good.any _).also (name_shr hn) fun nm r _ hr=>?_
 have h:=ns_t en (ts.length+1) [nm] r
 generalize pNs en (ts.length+1) [nm] r=q at h
 cases q with
 | er p e=>trivial
 | ok x r=>
  have h1:x.length≤1+(ts.length+1):=h
  show x.length≤5000000
  omega
theorem opt_t (en:Nat × Nat) (w:List UInt8) (ts:List Tok) (hn:ts.length≤65536):Good (fun l=>l.length≤5000000) (pOpt en w ts):=by
 unfold pOpt
 split
 ·exact names_t en _ (tail_le hn)
 ·show ([]:List NmP).length≤5000000
  simp
theorem opt_s {en:Nat × Nat} {w:List UInt8} {ts:List Tok} {n:Nat} (hn:ts.length≤n):Shr n (pOpt en w ts):=by
 unfold pOpt
 split
 ·exact pNames_shr (tail_le hn)
 ·exact hn
theorem fine_s {α:Type} {n:Nat} {R:PR α} (h:FineS n R):Shr n R:=by
 cases R with
 | ok x r=>exact Nat.le_of_lt h
 | er p e=>trivial
def PrT (p:PrS):Prop:=p.args.length≤5000000∧p.reads.length≤5000000∧p.writes.length≤5000000∧p.body.length≤5000000∧∀t,t∈p.body→BdT t
theorem proc_t (en:Nat × Nat) (ts:List Tok) (hn:ts.length≤65536):Good PrT (pProc en ts):=by
 unfold pProc
 refine (Good.any _).also (name_shr hn) fun nm r _ hr=>?_
 refine Good.also (Q:=fun l:List NmP=>l.length≤5000000) (n:=65536) (br_good ?_) (br_shr ?_) fun ags r2 h1 h2=>?_
 ·split
  ·show ([]:List NmP).length≤5000000
   simp
  ·exact names_t en _ (tail_le hr)
 ·split
  ·exact tail_le hr
  ·exact pNames_shr (tail_le hr)
 ·refine (opt_t en _ r2 h2).also (opt_s h2) fun rs r3 h3 h4=>?_
  refine (opt_t en _ r3 h4).also (opt_s h4) fun ws r4 h5 h6=>?_
  exact (blk_t en 0 r4 h6).bind fun b r5 hb=>⟨h1,h3,h5,hb.2,hb.1⟩
theorem src_t (en:Nat × Nat):∀(f:Nat) (acc:SrcS) (ts:List Tok),ts.length≤65536→acc.consts.length+f≤5000000→acc.procs.length+f≤5000000→(∀c,c∈acc.consts→BdE c.2.1)→(∀p,p∈acc.procs→PrT p)→Good BdR (pSrc en f acc ts)
 | 0,_,_,_,_,_,_,_=>by simp only[pSrc];trivial
 | f+1,acc,ts,hn,h1,h2,hc,hp=>by
  simp only[pSrc]
  split
  ·exact⟨by omega,by omega,hc,hp⟩
  ·split
   ·refine Good.also (Q:=fun c=>BdE c.2.1) (n:=65536) ?_ (fine_s (pConst_fine (tail_le hn))) fun c r hb hr=>src_t en f _ r hr (by simp only[List.length_append,List.length_singleton];omega) (by show acc.procs.length+f≤_;omega) (fun q hq=>?_) hp
    ·unfold pConst
     exact (Good.any _).bind fun nm r _=>(Good.any _).bind fun _ r2 _=>(w_good _ _ _).bind fun x r3 hx=>(Good.any _).bind fun _ r4 _=>hx
    ·rcases List.mem_append.mp hq with h | h
     ·exact hc q h
     ·rw[List.mem_singleton.mp h];exact hb
   ·refine (Good.any _).also (must_shr hn) fun _ r _ hr=>Good.also (proc_t en r hr) (fine_s (pProc_fine hr)) fun p r2 hb hr2=>src_t en f _ r2 hr2 (by show acc.consts.length+f≤_;omega) (by simp only[List.length_append,List.length_singleton];omega) hc (fun q hq=>?_)
    rcases List.mem_append.mp hq with h | h
    ·exact hp q h
    ·rw[List.mem_singleton.mp h];exact hb
theorem pa_bdr {L:List UInt8} {s:SrcS} (h:paOut L=.ok s):BdR s:=by
 unfold paOut at h
 split at h
 ·rename_i hL
  unfold parseL at h
  split at h
  ·cases h
  ·rename_i ts hk
   have hlen:ts.length≤65536:=by
    have:=tkR_len2 L _ 0 [] ts hk (by omega)
    simp only[List.length_nil] at this
    omega
   have hg:=src_t (spL (1,1) L) (ts.length+1) ⟨[],[]⟩ ts hlen (by show 0+(ts.length+1)≤_;omega) (by show 0+(ts.length+1)≤_;omega) (fun c hc=>(by cases hc)) (fun p hp=>(by cases hp))
   generalize pSrc (spL (1,1) L) (ts.length+1) ⟨[],[]⟩ ts=q at h hg
   cases q with
   | er p e=>cases h
   | ok x r=>
    simp only[SR.ok.injEq] at h
    rw[← h]
    exact hg
 ·cases h
end Go.Proofs.YtlfooogmoigpfaaGreatDoor
namespace Go.Proofs.YtlfooogmoigpfaaGreatDoor
open Go.RowKit Go.Sort Go.Shelf
def CPaP (w:World) (L:List UInt8) (e:Ending) (w':World):Prop:=∃v ev,e=.returned (.tuple #[v,ev])∧srcO (paOut L) (New noB w.heap.size) v w'∧FltT w' ev (fltI (paOut L)).1 (fltI (paOut L)).2.1 (fltI (paOut L)).2.2∧(ev=.nilIface∨∃t p,ev=.iface t p)∧Below w.heap.size w w'
theorem codP_any (w:World) (L:List UInt8) (hT:TabsOK w) (hP:PairVar w) (hN:NumVars w) (hM:MLen w) (hj:JoVar w) (hjn:5 < w.heap.size) (he:ErrVar w) (hB:11≤w.heap.size) :
  Calls Tryz.prog 5 #[.string (S L)] w fun e w'=>CPaP w L e w':=by
 by_cases h:L.length≤65536
 ·have hp:paOut L=parseL L:=by unfold paOut;rw[if_pos h]
  refine (parseS_any w L h hT hP hN hM hj hjn).mono fun e w' hq=>?_
  unfold CPaP
  rw[hp]
  unfold ParP at hq
  cases hk:parseL L with
  | ok s=>
   rw[hk] at hq
   obtain⟨v,h1,h2,h3⟩:=hq
   exact⟨v,.nilIface,h1,h2,fun W' _=>faultNil_any W',.inl rfl,h3⟩
  | er p x=>
   rw[hk] at hq
   obtain⟨v,h1,h2,h3⟩:=hq
   refine⟨_,v,h1,rfl,fun W' hb'=>?_,?_,h3⟩
   ·have hs:=h3.size
    have hs2:=hb'.size
    exact fault_any W' v p.1 p.2 (x:Int) (h2.kept hb') ((he.bel h3 hB).bel hb' (by omega)) (by omega)
   ·obtain⟨b,rfl,_⟩:=h2
    exact .inr ⟨_,_,rfl⟩
 ·have hp:paOut L=.er (0,0) 44:=by unfold paOut;rw[if_neg h]
  refine (parseLong_any w L (by omega)).mono fun e w' ⟨h1,h2⟩=>?_
  unfold CPaP
  rw[hp]
  have hs:=h2.size
  exact⟨_,_,h1,rfl,fun W' hb'=>faultLong_any W' ((he.bel h2 hB).bel hb' (by omega)) (by have:=hb'.size;omega),.inr ⟨_,_,rfl⟩,h2⟩
def srcT:SR→SrcS
 | .ok s=>s
 | .er _ _=>⟨[],[]⟩
theorem okSrc_nil (P:Nat→Prop) (W:World):okSrc P ⟨[],[]⟩ (.agg #[Zn,Zn]) W:=⟨_,_,[],[],rfl,World.ownsRow_nil _ _ _ _,World.ownsRow_nil _ _ _ _,fun g hg=>(by cases hg),fun g hg=>(by cases hg),rfl,rfl⟩
theorem srcO_ok {R:SR} {P:Nat→Prop} {v:Value} {W:World} (h:srcO R P v W):okSrc P (srcT R) v W:=by
 cases R with
 | ok s=>exact h
 | er p x=>
  have h:v=.agg #[Zn,Zn]:=h
  rw[h]
  exact okSrc_nil P W
theorem srcT_bd (L:List UInt8):BdSrc (srcT (paOut L)):=by
 cases h:paOut L with
 | ok s=>exact pa_good h
 | er p x=>exact⟨fun c hc=>(by cases hc),fun p hp=>(by cases hp)⟩
theorem srcT_bdr (L:List UInt8):BdR (srcT (paOut L)):=by
 cases h:paOut L with
 | ok s=>exact pa_bdr h
 | er p x=>exact⟨by show 0≤_;omega,by show 0≤_;omega,fun c hc=>(by cases hc),fun p hp=>(by cases hp)⟩
theorem okSrc_lt {P:Nat→Prop} {s:SrcS} {v:Value} {W:World} (h:okSrc P s v W):okSrc (ltB P W.heap.size) s v W:=by
 obtain⟨cv,pv,cs,ps,e,h1,h2,h3,h4,h5,h6⟩:=h
 exact⟨cv,pv,cs,ps,e,h1,h2,fun g hg=>⟨h3 g hg,(World.ownsRow.lt h1 g hg).2⟩,fun g hg=>⟨h4 g hg,(World.ownsRow.lt h2 g hg).2⟩,h5.lt okCo_lt,h6.lt okPr_lt⟩
theorem lawPar (w:World) (L:List UInt8) (HCo:Hid (∀W',Below w.heap.size w W'→Calls Tryz.prog 5 #[.string (S L)] W' fun e w'=>CPaP W' L e w')) :
  Calls Tryz.prog 3 #[.string (S L)] w fun e w'=>e=.returned (.bool true)∧Below w.heap.size w w':=by
 have HDo:=Zh (dparse_any w L)
 have HBd:=Zh (srcT_bd L)
 have HBr:=Zh (srcT_bdr L)
 have HDo2:Hid (Calls Tryz.prog 4 #[.string (S L)] w fun e w'=>∃da dn dc pa pn pc,e=.returned (.tuple #[.agg #[.slice da dn dc,.slice pa pn pc],ftT (fltI (paOut L)).1 (fltI (paOut L)).2.1 (fltI (paOut L)).2.2])∧okSrc (New noB w.heap.size) (srcT (paOut L)) (.agg #[.slice da dn dc,.slice pa pn pc]) w'∧Below w.heap.size w w'):=Zh (HDo.out.mono fun e w' ⟨v,h1,h2,h3⟩=>by
  have h4:=srcO_ok h2
  obtain⟨ca,cc,pa,pc,rfl,_⟩:=src_sl h4
  exact⟨_,_,_,_,_,_,h1,h4,h3⟩)
 have HCo2:Hid (∀W',Below w.heap.size w W'→Calls Tryz.prog 5 #[.string (S L)] W' fun e w'=>∃da dn dc pa pn pc ev,e=.returned (.tuple #[.agg #[.slice da dn dc,.slice pa pn pc],ev])∧okSrc (New noB W'.heap.size) (srcT (paOut L)) (.agg #[.slice da dn dc,.slice pa pn pc]) w'∧FltT w' ev (fltI (paOut L)).1 (fltI (paOut L)).2.1 (fltI (paOut L)).2.2∧(ev=.nilIface∨∃t p,ev=.iface t p)∧Below W'.heap.size W' w'):=Zh fun W' hW=>(HCo.out W' hW).mono fun e w' ⟨v,ev,h1,h2,h3,h4,h5⟩=>by
  have h6:=srcO_ok h2
  obtain⟨ca,cc,pa,pc,rfl,_⟩:=src_sl h6
  exact⟨_,_,_,_,_,_,ev,h1,h6,h3,h4,h5⟩
 clear HDo HCo
 obtain⟨sl,hsl⟩:=nm (S L)
 rw[← hsl] at HDo2 HCo2 ⊢
 generalize srcT (paOut L)=s at *
 generalize fltI (paOut L)=o at *
 obtain⟨x,y,z⟩:=o
 simp only at HDo2 HCo2
 clear hsl
 go_enter Tryz.func3,Tryz.ntmps3
 go_wp2_with fail
 refine HDo2.out.mono ?_
 rintro e w1 ⟨da,dn,dc,ea,en,ec,rfl,h1,hb1⟩
 obtain⟨w2,hw2⟩:=nm ((w1.alloc (.cells #[.slice da dn dc,.slice ea en ec] 25)).alloc (.cells #[Zi x,Zi y,Zi z] 27))
 obtain⟨d,hd⟩:=nm (w1.heap.size)
 have hb2:Below w1.heap.size w1 w2:=by rw[hw2];exact ((Below.refl _ _).alloc (Nat.le_refl _) _).alloc (by simp) _
 have hD:RowS w2 d (.slice da dn dc) (.slice ea en ec):=by rw[hw2,hd];exact (heap_alloc_old _ _ (by simp)).trans (heap_alloc_new _ _ rfl)
 have hF:w2.heap[d+1]? = some (.cells #[Zi x,Zi y,Zi z] 27 (0,0)):=by rw[hw2,hd];exact heap_alloc_new _ _ (by simp)
 have HDF:=Zh (And.intro hD hF)
 have HSd:=Zh (okSrc_lt h1)
 have HB1:=Zh hb1
 have HB2:=Zh hb2
 have HB2w:=Zh (hb1.trans (hb2.mono hb1.size))
 have HDd:=Zh hd
 clear h1 hb1 hb2 hD hF HDo2
 go_upto_region 2 with fail
 rw[← hw2,← hd]
 clear hw2 hd
 go_wp2_with fail
 refine (HCo2.out w2 HB2w.out).mono ?_
 rintro e w3 ⟨aa,an,ac,fa,fn,fc,v1,rfl,k1,k2,hv1,hb3⟩
 obtain⟨w4,hw4⟩:=nm (w3.alloc (.cells #[.slice aa an ac,.slice fa fn fc] 25))
 obtain⟨a,ha⟩:=nm (w3.heap.size)
 have hb4:Below w3.heap.size w3 w4:=by rw[hw4];exact bel_al _ _
 have hA:RowS w4 a (.slice aa an ac) (.slice fa fn fc):=by rw[hw4,ha];exact heap_alloc_new _ _ rfl
 have HA:=Zh hA
 have HSa:=Zh (okSrc_lt k1)
 have HFa:=Zh k2
 have HB3:=Zh hb3
 have HB4:=Zh hb4
 have HB4w:=Zh (HB2w.out.trans ((hb3.trans (hb4.mono hb3.size)).mono HB2w.out.size))
 have HV1:=Zh hv1
 have HAa:=Zh ha
 clear k1 k2 hb3 hb4 hA hv1
 go_upto_region 3 with fail
 rw[← hw4,← ha]
 clear hw4 ha
 go_wp2_with fail
 refine (HCo2.out w4 HB4w.out).mono ?_
 rintro e w5 ⟨ba,bn,bc,ga,gn,gc,v2,rfl,m1,m2,hv2,hb5⟩
 obtain⟨w6,hw6⟩:=nm (w5.alloc (.cells #[.slice ba bn bc,.slice ga gn gc] 25))
 obtain⟨b,hb⟩:=nm (w5.heap.size)
 have hb6:Below w5.heap.size w5 w6:=by rw[hw6];exact bel_al _ _
 have hBx:RowS w6 b (.slice ba bn bc) (.slice ga gn gc):=by rw[hw6,hb];exact heap_alloc_new _ _ rfl
 have hSb:=okSrc_lt m1
 have h46:Below w4.heap.size w4 w6:=hb5.trans (hb6.mono hb5.size)
 have h36:Below w3.heap.size w3 w6:=HB4.out.trans (h46.mono HB4.out.size)
 have h26:Below w2.heap.size w2 w6:=HB3.out.trans (h36.mono HB3.out.size)
 have h16:Below w1.heap.size w1 w6:=HB2.out.trans (h26.mono HB2.out.size)
 have HOrd:Hid (w.heap.size≤w1.heap.size∧d=w1.heap.size∧d+1 < w2.heap.size∧w2.heap.size≤w3.heap.size∧a=w3.heap.size∧a < w4.heap.size∧w4.heap.size≤w5.heap.size∧b=w5.heap.size∧b < w6.heap.size):=Zh ⟨HB1.out.size,HDd.out,blk_lt HDF.out.2,HB3.out.size,HAa.out,blk_lt HA.out,hb5.size,hb,blk_lt hBx⟩
 have HBlk:Hid (w6.heap[d]? = some (.cells #[.slice da dn dc,.slice ea en ec] 25 (0,0))∧w6.heap[d+1]? = some (.cells #[Zi x,Zi y,Zi z] 27 (0,0))∧w6.heap[a]? = some (.cells #[.slice aa an ac,.slice fa fn fc] 25 (0,0))∧w6.heap[b]? = some (.cells #[.slice ba bn bc,.slice ga gn gc] 25 (0,0))):=Zh ⟨(h26.block d (blk_lt HDF.out.1)).trans HDF.out.1,(h26.block _ (blk_lt HDF.out.2)).trans HDF.out.2,(h46.block a (blk_lt HA.out)).trans HA.out,hBx⟩
 have HTd:Hid (okSrc (fun k=>k < w2.heap.size) s (.agg #[.slice da dn dc,.slice ea en ec]) w6):=Zh (okSrc_f _ _ _ _ _ _ HSd.out (fun k hk=>Nat.lt_of_lt_of_le hk.2 HB2.out.size) (fun k _ hk=>h16.block k hk))
 have HTa:Hid (okSrc (fun k=>w2.heap.size≤k∧k < w3.heap.size) s (.agg #[.slice aa an ac,.slice fa fn fc]) w6):=Zh (okSrc_f _ _ _ _ _ _ HSa.out (fun k hk=>⟨hk.1.elim (fun h=>h.elim) id,hk.2⟩) (fun k _ hk=>h36.block k hk))
 have HTb:Hid (okSrc (fun k=>w4.heap.size≤k) s (.agg #[.slice ba bn bc,.slice ga gn gc]) w6):=Zh (okSrc_f _ _ _ _ _ _ hSb (fun k hk=>hk.1.elim (fun h=>h.elim) id) (fun k _ hk=>hb6.block k hk))
 have HG1:Hid (∀W,Below w6.heap.size w6 W→Calls Tryz.prog 6 #[v1] W fun e w'=>e=.returned (ftT x y z)∧Below W.heap.size W w'):=Zh fun W hW=>HFa.out W (h36.trans (hW.mono h36.size))
 have HG2:Hid (∀W,Below w6.heap.size w6 W→Calls Tryz.prog 6 #[v2] W fun e w'=>e=.returned (ftT x y z)∧Below W.heap.size W w'):=Zh fun W hW=>m2 W (hb6.trans (hW.mono hb6.size))
 have HS1:Hid (∀W,Below w6.heap.size w6 W→Calls Tryz.prog 7 #[.agg #[.slice aa an ac,.slice fa fn fc],.agg #[.slice da dn dc,.slice ea en ec],.bool true] W fun e w'=>e=.returned (.bool true)∧Below W.heap.size W w'):=Zh fun W hW=>same_src W s HBd.out _ _ _ _ (okSrc_f _ _ _ _ _ _ HTa.out (fun _ q=>q) (fun k _ hk=>hW.block k hk)) (okSrc_f _ _ _ _ _ _ HTd.out (fun _ q=>q) (fun k _ hk=>hW.block k hk))
 have HS2:Hid (∀W,Below w6.heap.size w6 W→Calls Tryz.prog 7 #[.agg #[.slice ba bn bc,.slice ga gn gc],.agg #[.slice da dn dc,.slice ea en ec],.bool true] W fun e w'=>e=.returned (.bool true)∧Below W.heap.size W w'):=Zh fun W hW=>same_src W s HBd.out _ _ _ _ (okSrc_f _ _ _ _ _ _ HTb.out (fun _ q=>q) (fun k _ hk=>hW.block k hk)) (okSrc_f _ _ _ _ _ _ HTd.out (fun _ q=>q) (fun k _ hk=>hW.block k hk))
 have HCl:Hid (∀W,Below w6.heap.size w6 W→(W.cell? ⟨d+1,0,none⟩=some (Zi x)∧W.cell? ⟨d+1,1,none⟩=some (Zi y)∧W.cell? ⟨d+1,2,none⟩=some (Zi z))∧(W.cell? ⟨d,0,none⟩=some (.slice da dn dc)∧W.cell? ⟨d,1,none⟩=some (.slice ea en ec))∧(W.cell? ⟨a,0,none⟩=some (.slice aa an ac)∧W.cell? ⟨a,1,none⟩=some (.slice fa fn fc))∧W.cell? ⟨b,0,none⟩=some (.slice ba bn bc)∧W.cell? ⟨b,1,none⟩=some (.slice ga gn gc)):=Zh fun W hW=>by
  obtain⟨q1,q2,q3,q4⟩:=HBlk.out
  have r1:=(hW.block _ (blk_lt q1)).trans q1
  have r2:=(hW.block _ (blk_lt q2)).trans q2
  have r3:=(hW.block _ (blk_lt q3)).trans q3
  have r4:=(hW.block _ (blk_lt q4)).trans q4
  exact⟨⟨by simp[World.cell?,r2],by simp[World.cell?,r2],by simp[World.cell?,r2]⟩,⟨by simp[World.cell?,r1],by simp[World.cell?,r1]⟩,⟨by simp[World.cell?,r3],by simp[World.cell?,r3]⟩,by simp[World.cell?,r4],by simp[World.cell?,r4]⟩
 have HDr:Hid (Below w6.heap.size w6 w6.drew):=Zh (Grew.refl w6).drew.below
 have HB0:Hid (Below w.heap.size w w6):=Zh (HB1.out.trans (h16.mono HB1.out.size))
 obtain⟨⟨c0,c1,c2⟩,⟨d0,d1⟩,⟨a0,a1⟩,b0,b1⟩:=HCl.out w6 (Below.refl _ _)
 have HV2:=Zh hv2
 clear m1 m2 hb5 hb6 hBx hSb h46 h36 h26 h16 HDF HSd HSa HFa HA HCo2 hv2
 go_upto_region 4 with fail
 rw[← hw6,← hb]
 clear hw6 hb
 go_region_held3 (fun w'=>(w'.cell? ⟨d+1,0,none⟩=some (Zi x)∧w'.cell? ⟨d+1,1,none⟩=some (Zi y)∧w'.cell? ⟨d+1,2,none⟩=some (Zi z))∧(w'.cell? ⟨d,0,none⟩=some (.slice da dn dc)∧w'.cell? ⟨d,1,none⟩=some (.slice ea en ec))∧(w'.cell? ⟨a,0,none⟩=some (.slice aa an ac)∧w'.cell? ⟨a,1,none⟩=some (.slice fa fn fc))∧w'.cell? ⟨b,0,none⟩=some (.slice ba bn bc)∧w'.cell? ⟨b,1,none⟩=some (.slice ga gn gc)) (first | with_reducible exact HC8.out | with_reducible exact HC7.out | with_reducible exact HC6.out | with_reducible exact HC5.out | go_keep) (first
  | (go_at_call 6;with_reducible refine (HG1.out _ HDr.out).mono ?_;rintro e x5 ⟨rfl,hb5⟩;have HB5:=Zh (HDr.out.trans (hb5.mono HDr.out.size));have HC5:=Zh (HCl.out x5 HB5.out);clear hb5)
  | (go_at_call 6;with_reducible refine (HG2.out _ HB5.out).mono ?_;rintro e x6 ⟨rfl,hb6⟩;have HB6:=Zh (HB5.out.trans (hb6.mono HB5.out.size));have HC6:=Zh (HCl.out x6 HB6.out);clear hb6)
  | (go_at_call 7;with_reducible refine (HS1.out _ HB6.out).mono ?_;rintro e x7 ⟨rfl,hb7⟩;have HB7:=Zh (HB6.out.trans (hb7.mono HB6.out.size));have HC7:=Zh (HCl.out x7 HB7.out);clear hb7)
  | (go_at_call 7;with_reducible refine (HS2.out _ HB7.out).mono ?_;rintro e x8 ⟨rfl,hb8⟩;have HB8:=Zh (HB7.out.trans (hb8.mono HB7.out.size));have HC8:=Zh (HCl.out x8 HB8.out);clear hb8))
 have h8:=HB8.out
 have hTa:=okSrc_f _ _ _ _ _ _ HTa.out (fun _ q=>q) (fun k _ hk=>h8.block k hk)
 obtain⟨hrc,hrp⟩:=src_rows HBr.out hTa
 have HScar:=Zh (scar_src (fun k=>w2.heap.size≤k∧k < w3.heap.size) x8 (fun k hk=>by have:=HOrd.out;have:=h8.size;omega) _ _ hrc hrp)
 have HFin:Hid (∀U,Scr (fun k=>w2.heap.size≤k∧k < w3.heap.size) x8 U→(U.cell? ⟨d,0,none⟩=some (.slice da dn dc)∧U.cell? ⟨d,1,none⟩=some (.slice ea en ec))∧(U.cell? ⟨b,0,none⟩=some (.slice ba bn bc)∧U.cell? ⟨b,1,none⟩=some (.slice ga gn gc))∧Below w.heap.size w U∧Calls Tryz.prog 7 #[.agg #[.slice ba bn bc,.slice ga gn gc],.agg #[.slice da dn dc,.slice ea en ec],.bool true] U fun e w'=>e=.returned (.bool true)∧Below U.heap.size U w'):=Zh fun U hU=>by
  have ho:=HOrd.out
  have h08:=HB0.out.trans (h8.mono HB0.out.size)
  have hbl:∀k,k < w6.heap.size→(k < w2.heap.size∨w3.heap.size≤k)→U.heap[k]? = w6.heap[k]?:=fun k hk hn=>(hU.out k (Nat.lt_of_lt_of_le hk h8.size) (by omega)).trans (h8.block k hk)
  obtain⟨q1,_,_,q4⟩:=HBlk.out
  have r1:=(hbl d (blk_lt q1) (by omega)).trans q1
  have r4:=(hbl b (blk_lt q4) (by omega)).trans q4
  refine⟨⟨by simp[World.cell?,r1],by simp[World.cell?,r1]⟩,⟨by simp[World.cell?,r4],by simp[World.cell?,r4]⟩,⟨hU.os.trans h08.os,hU.tape.trans h08.tape,hU.output.trans h08.output,Nat.le_trans h08.size hU.size,fun k hk=>(hbl k (by have:=HB0.out.size;omega) (by omega)).trans (HB0.out.block k hk)⟩,?_⟩
  exact same_src U s HBd.out _ _ _ _ (okSrc_f _ _ _ _ _ _ HTb.out (fun _ q=>q) (fun k hk hl=>hbl k hl (by omega))) (okSrc_f _ _ _ _ _ _ HTd.out (fun _ q=>q) (fun k hk hl=>hbl k hl (.inl hk)))
 have hc8:=HC8.out
 obtain⟨_,_,⟨a0,a1⟩,_⟩:=hc8
 clear hTa hrc hrp h8 HC5 HC6 HC7 HC8 HB5 HB6 HB7 HDr HCl HG1 HG2 HS1 HS2
 go_wp2_with fail
 refine HScar.out.mono ?_
 rintro e U ⟨rfl,hU⟩
 obtain⟨⟨d0,d1⟩,⟨b0,b1⟩,hwU,hcl⟩:=HFin.out U hU
 have HwU:=Zh hwU
 have HcU:=Zh hcl
 clear hU hwU hcl a0 a1
 go_wp2_with fail
 refine HcU.out.mono ?_
 rintro e V ⟨rfl,hV⟩
 have HE:=Zh (HwU.out.trans (hV.mono HwU.out.size))
 clear hV
 go_wp2_with fail
 go_ret
 exact⟨rfl,HE.out⟩
end Go.Proofs.YtlfooogmoigpfaaGreatDoor
