import Derived.Test.YtlfooogmoigpfaaGreatDoorQal
import Derived.Test.YtlfooogmoigpfaaGreatDoorQad
import Derived.Test.YtlfooogmoigpfaaGreatDoorQaa
set_option maxRecDepth 100000
set_option maxHeartbeats 8000000
namespace Go.Proofs.YtlfooogmoigpfaaGreatDoor
open Go.RowKit Go.Sort Go.Shelf
theorem step_appP {w:World} {ops:Array Oper} {o:Oper} {a:Act} {K':Act→World→Prop} {Q:Exit→Act→World→Prop} {E:Prop} (hgd:o.guard=none) (s x:Operand) (TS:TypeId)
  (ho:o.op=.call { callee:=.builtin .append,args:=#[s,x],argTypes:=#[TS,TS] }) (v u:Value) (hs:a.eval s=v) (hx:a.eval x=u) {post:Value→World→Prop}
  (hr:∀ty,∃v' w',(Builtin.append_ #[TS,TS] ty #[v,u]).run Tryz.prog w=.ok v' w'∧post v' w') (h:∀v' w',post v' w'→K' (a.put o.dst v') w') :
  if Region.wanted o (yielded ops a.tmps)=true then Oper.wp Tryz.prog o a w K' Q else E:=by
 have hw:Region.wanted o (yielded ops a.tmps)=true:=by simp[Region.wanted,hgd]
 rw[if_pos hw]
 obtain⟨v',w',hr,h2⟩:=hr o.type
 unfold Oper.wp execOp
 simp only[ho,resolve,invoke,builtin,Sem.run_bind,Sem.run_pure,Result.andThen_ok,List.map_toArray,List.map_cons,List.map_nil,hs,hx,hr]
 exact h v' w' h2
def Els {α:Type} (okv:(Nat→Prop)→α→Value→World→Prop) (sz:Nat) (P:Nat→Prop) (W:World):List α→List Value→Prop
 | [],cs=>cs=[]
 | x :: r,cs=>∃a ds,cs=a ++ ds∧a.length=sz∧okv P x (.agg a.toArray) W∧Els okv sz P W r ds
theorem Els.kept {α:Type} {okv:(Nat→Prop)→α→Value→World→Prop} {sz:Nat} (hok:OkvF okv) {P P':Nat→Prop} {W W':World} (hp:∀k,P k→P' k) (hs:∀k,P k→k < W.heap.size→W'.heap[k]? = W.heap[k]?):∀{l:List α} {cs:List Value},Els okv sz P W l cs→Els okv sz P' W' l cs
 | [],_,h=>h
 | _ :: _,_,⟨a,ds,e,hl,h1,h2⟩=>⟨a,ds,e,hl,hok _ _ _ _ _ _ h1 hp hs,Els.kept hok hp hs h2⟩
theorem Els.lt {α:Type} {okv:(Nat→Prop)→α→Value→World→Prop} {sz:Nat} (hlt:∀P x v W,okv P x v W→okv (ltB P W.heap.size) x v W) {P:Nat→Prop} {W:World} : ∀{l:List α} {cs:List Value},Els okv sz P W l cs→Els okv sz (ltB P W.heap.size) W l cs
 | [],_,h=>h
 | _ :: _,_,⟨a,ds,e,hl,h1,h2⟩=>⟨a,ds,e,hl,hlt _ _ _ _ h1,Els.lt hlt h2⟩
theorem Els.app {α:Type} {okv:(Nat→Prop)→α→Value→World→Prop} {sz:Nat} {P:Nat→Prop} {W:World} {x:α} {a:List Value} (hl:a.length=sz) (hx:okv P x (.agg a.toArray) W):∀{l:List α} {cs:List Value},Els okv sz P W l cs→Els okv sz P W (l ++ [x]) (cs ++ a)
 | [],cs,h=>by
  have h:cs=[]:=h
  subst h
  exact⟨a,[],by simp,hl,hx,rfl⟩
 | y :: l,cs,⟨b,ds,e,hb,h1,h2⟩=>⟨b,ds ++ a,by rw[e,List.append_assoc],hb,h1,Els.app hl hx h2⟩
theorem okCo_lt (P:Nat→Prop) (c:CoS) (v:Value) (W:World) (h:okCo P c v W):okCo (ltB P W.heap.size) c v W:=by
 obtain⟨x0,x1,x2,x3,x4,x5,x6,e,h⟩:=h
 exact⟨x0,x1,x2,x3,x4,x5,x6,e,okE_lt h⟩
theorem okPr_lt (P:Nat→Prop) (p:PrS) (v:Value) (W:World) (h:okPr P p v W):okPr (ltB P W.heap.size) p v W:=by
 obtain⟨a,r,w,b,e,h1,h2,h3,h4⟩:=h
 exact⟨a,r,w,b,e,okNs_lt h1,okNs_lt h2,okNs_lt h3,h4.lt⟩
def okSrc (P:Nat→Prop) (s:SrcS) (v:Value) (W:World):Prop:=∃cv pv cs ps,v=.agg #[cv,pv]∧W.ownsRow 0 68 10 cv s.consts.length cs∧W.ownsRow 0 73 7 pv s.procs.length ps∧(∀g,cv.ownBlock=some g→P g)∧(∀g,pv.ownBlock=some g→P g)∧Els okCo 10 P W s.consts cs∧Els okPr 7 P W s.procs ps
theorem okSrc_f:OkvF okSrc:=by
 intro P P' s v W W' h hp hs
 obtain⟨cv,pv,cs,ps,e,h1,h2,h3,h4,h5,h6⟩:=h
 exact⟨cv,pv,cs,ps,e,ownsRow_same h1 (fun g hg=>hs g (h3 g hg) (World.ownsRow.lt h1 g hg).2),ownsRow_same h2 (fun g hg=>hs g (h4 g hg) (World.ownsRow.lt h2 g hg).2),fun g hg=>hp g (h3 g hg),fun g hg=>hp g (h4 g hg),h5.kept okCo_f hp hs,h6.kept okPr_f hp hs⟩
theorem constE:ElA 22 68 (.agg #[Ze,Zi 0,Zi 0,Zi 0,Ze,Zn,Zi 0,Zi 0,Zi 0,Zi 0]) 10 112:=⟨Tryz.underlying22,by kernel_rfl,rfl,by decide,by decide⟩
theorem defineE:ElA 23 73 (.agg #[Ze,Zn,Zn,Zn,Zn,Zi 0,Zi 0]) 7 128:=⟨Tryz.underlying23,by kernel_rfl,rfl,by decide,by decide⟩
def Pcp (n:Nat) (cv pv:Value):Nat→Prop:=fun k=>n≤k∧cv.ownBlock≠some k∧pv.ownBlock≠some k
structure SrL (w wr:World) (rb:Nat) (en:Nat × Nat) (G:PR SrcS) (f:Nat) (acc:SrcS) (ts:List Tok) (v cv pv:Value) (cs ps:List Value):Prop where
 qs:QS w wr rb ts en 0 v
 z:RowS wr w.heap.size (Zn) (Zn)
 s:RowS wr (w.heap.size+1) cv pv
 co:wr.ownsRow (w.heap.size+1+1) 68 10 cv acc.consts.length cs
 po:wr.ownsRow (w.heap.size+1+1) 73 7 pv acc.procs.length ps
 ne:∀g,cv.ownBlock=some g→pv.ownBlock≠some g
 cc:Els okCo 10 (Pcp (w.heap.size+1+1) cv pv) wr acc.consts cs
 pp:Els okPr 7 (Pcp (w.heap.size+1+1) cv pv) wr acc.procs ps
 eq:G=pSrc en f acc ts
 ln:acc.consts.length+acc.procs.length+ts.length≤70000
section
variable {w wr w':World} {rb:Nat} {en:Nat × Nat} {G G':PR SrcS} {f f':Nat} {acc:SrcS} {ts ts':List Tok} {v v' cv pv:Value} {cs ps:List Value}
theorem SrL.t1 (h:SrL w wr rb en G f acc ts v cv pv cs ps) (ht:T1 rb wr w') (hr:RdB w' rb ts' en 0 v') (hl:ts'.length≤ts.length) (he:G'=pSrc en f' acc ts'):SrL w w' rb en G' f' acc ts' v' cv pv cs ps:=by
 have hlt:=h.qs.lt
 have hb:∀k,w.heap.size≤k→k < wr.heap.size→w'.heap[k]? = wr.heap[k]?:=fun k hk hl=>ht.block k hl (by omega)
 refine⟨h.qs.call ht hr,h.z.t1 ht (by omega),h.s.t1 ht (by omega),ownsRow_same h.co (fun g hg=>?_),ownsRow_same h.po (fun g hg=>?_),h.ne,h.cc.kept okCo_f (fun _ q=>q) (fun k hk hl=>hb k (by have:=hk.1;omega) hl),h.pp.kept okPr_f (fun _ q=>q) (fun k hk hl=>hb k (by have:=hk.1;omega) hl),he,by have:=h.ln;omega⟩
 ·have:=World.ownsRow.lt h.co g hg
  exact hb g (by omega) this.2
 ·have:=World.ownsRow.lt h.po g hg
  exact hb g (by omega) this.2
end
theorem pcp_mono {n M:Nat} {cv pv cv':Value} (h:∀k,k < M→cv.ownBlock≠some k→cv'.ownBlock≠some k) (k:Nat) (hk:ltB (Pcp n cv pv) M k):Pcp n cv' pv k:=⟨hk.1.1,h k hk.2 hk.1.2.1,hk.1.2.2⟩
theorem blk_ne {M:Nat} {v v':Value} (h:v'.ownBlock=v.ownBlock∨∀k,v'.ownBlock=some k→M≤k) (k:Nat) (hk:k < M) (hn:v.ownBlock≠some k):v'.ownBlock≠some k:=fun he=>by
 rcases h with h | h
 ·exact hn (h▸he)
 ·have:=h k he;omega
theorem SrL.addC {w W W' W2:World} {rb:Nat} {en:Nat × Nat} {G G2:PR SrcS} {f:Nat} {acc:SrcS} {ts:List Tok} {v cv pv cv':Value} {cs ps a:List Value} {c:CoS} {M n:Nat} (h:SrL w W rb en G f acc ts v cv pv cs ps) (hn:n=acc.consts.length) (hR:RApp W W' (w.heap.size+1+1) 68 10 cv cv' n (cs ++ a)) (hl:a.length=10) (hc:okCo (New noB M) c (.agg a.toArray) W) (hM:∀g,(cv.ownBlock=some g∨pv.ownBlock=some g)→g < M) (hM2:w.heap.size+1+1≤M) (h2:W2=W'.setCell ⟨w.heap.size+1,0,none⟩ cv') {f':Nat} (he:G2=pSrc en f' { acc with consts:=acc.consts ++ [c] } ts) (hln:(acc.consts.length+1)+acc.procs.length+ts.length≤70000) :
  SrL w W2 rb en G2 f' { acc with consts:=acc.consts ++ [c] } ts v cv' pv (cs ++ a) ps:=by
 subst hn
 have hs1:=blk_lt h.s
 have hoth:∀k,k≠w.heap.size+1→W2.heap[k]? = W'.heap[k]?:=fun k hk=>by rw[h2];exact heap_setCell_other _ _ _ _ hk
 have hbe:Below w.heap.size W W2:=by rw[h2];exact (hR.bel.mono (by omega)).setCell (p:=⟨w.heap.size+1,0,none⟩) (by show w.heap.size≤w.heap.size+1;omega) _
 have hlow:∀k,k < w.heap.size+1+1→W'.heap[k]? = W.heap[k]?:=fun k hk=>hR.bel.block k hk
 have hne:=blk_ne hR.blk
 have hP:∀k,ltB (Pcp (w.heap.size+1+1) cv pv) W.heap.size k→Pcp (w.heap.size+1+1) cv' pv k:=pcp_mono hne
 have hS:∀k,Pcp (w.heap.size+1+1) cv pv k→k < W.heap.size→W2.heap[k]? = W.heap[k]?:=fun k hk hl=>(hoth k (by have:=hk.1;omega)).trans (hR.oth k hl hk.2.1)
 refine⟨h.qs.low hbe,?_,?_,?_,?_,?_,?_,?_,he,?_⟩
 ·exact (hoth _ (by omega)).trans ((hlow _ (by omega)).trans h.z)
 ·rw[h2]
  exact heap_setCell_same _ (w.heap.size+1) 0 _ _ _ ((hlow _ (by omega)).trans h.s)
 ·have h3:=hR.own
  rw[show ({ acc with consts:=acc.consts ++ [c] } : SrcS).consts.length=acc.consts.length+1 by simp]
  exact ownsRow_same h3 (fun g hg=>hoth g (by have:=(World.ownsRow.lt h3 g hg).1;omega))
 ·exact ownsRow_same h.po (fun g hg=>(hoth g (by have:=(World.ownsRow.lt h.po g hg).1;omega)).trans (hR.oth g (World.ownsRow.lt h.po g hg).2 (fun e=>h.ne g e hg)))
 ·intro g hg hg2
  have h3:=World.ownsRow.lt h.po g hg2
  exact hne g h3.2 (fun e=>h.ne g e hg2) hg
 ·refine Els.app hl (okCo_f _ _ _ _ _ _ (okCo_lt _ _ _ _ hc) (fun k hk=>?_) (fun k hk hl=>?_)) ((h.cc.lt okCo_lt).kept okCo_f hP (fun k hk hl=>hS k hk.1 hl))
  ·have hk1:M≤k:=hk.1.elim (fun h=>h.elim) id
   exact⟨by omega,hne k hk.2 (fun e=>by have:=hM k (.inl e);omega),fun e=>by have:=hM k (.inr e);omega⟩
  ·have hk1:M≤k:=hk.1.elim (fun h=>h.elim) id
   exact hS k ⟨by omega,fun e=>by have:=hM k (.inl e);omega,fun e=>by have:=hM k (.inr e);omega⟩ hl
 ·exact (h.pp.lt okPr_lt).kept okPr_f hP (fun k hk hl=>hS k hk.1 hl)
 ·show (acc.consts ++ [c]).length+acc.procs.length+ts.length≤70000
  rw[List.length_append,List.length_singleton]
  exact hln
theorem SrL.addP {w W W' W2:World} {rb:Nat} {en:Nat × Nat} {G G2:PR SrcS} {f:Nat} {acc:SrcS} {ts:List Tok} {v cv pv pv':Value} {cs ps a:List Value} {c:PrS} {M n:Nat} (h:SrL w W rb en G f acc ts v cv pv cs ps) (hn:n=acc.procs.length) (hR:RApp W W' (w.heap.size+1+1) 73 7 pv pv' n (ps ++ a)) (hl:a.length=7) (hc:okPr (New noB M) c (.agg a.toArray) W) (hM:∀g,(cv.ownBlock=some g∨pv.ownBlock=some g)→g < M) (hM2:w.heap.size+1+1≤M) (h2:W2=W'.setCell ⟨w.heap.size+1,1,none⟩ pv') {f':Nat} (he:G2=pSrc en f' { acc with procs:=acc.procs ++ [c] } ts) (hln:acc.consts.length+(acc.procs.length+1)+ts.length≤70000) :
  SrL w W2 rb en G2 f' { acc with procs:=acc.procs ++ [c] } ts v cv pv' cs (ps ++ a):=by
 subst hn
 have hs1:=blk_lt h.s
 have hoth:∀k,k≠w.heap.size+1→W2.heap[k]? = W'.heap[k]?:=fun k hk=>by rw[h2];exact heap_setCell_other _ _ _ _ hk
 have hbe:Below w.heap.size W W2:=by rw[h2];exact (hR.bel.mono (by omega)).setCell (p:=⟨w.heap.size+1,1,none⟩) (by show w.heap.size≤w.heap.size+1;omega) _
 have hlow:∀k,k < w.heap.size+1+1→W'.heap[k]? = W.heap[k]?:=fun k hk=>hR.bel.block k hk
 have hne:=blk_ne hR.blk
 have hP:∀k,ltB (Pcp (w.heap.size+1+1) cv pv) W.heap.size k→Pcp (w.heap.size+1+1) cv pv' k:=fun k hk=>⟨hk.1.1,hk.1.2.1,hne k hk.2 hk.1.2.2⟩
 have hS:∀k,Pcp (w.heap.size+1+1) cv pv k→k < W.heap.size→W2.heap[k]? = W.heap[k]?:=fun k hk hl=>(hoth k (by have:=hk.1;omega)).trans (hR.oth k hl hk.2.2)
 refine⟨h.qs.low hbe,?_,?_,?_,?_,?_,?_,?_,he,?_⟩
 ·exact (hoth _ (by omega)).trans ((hlow _ (by omega)).trans h.z)
 ·rw[h2]
  exact heap_setCell_same _ (w.heap.size+1) 1 _ _ _ ((hlow _ (by omega)).trans h.s)
 ·exact ownsRow_same h.co (fun g hg=>(hoth g (by have:=(World.ownsRow.lt h.co g hg).1;omega)).trans (hR.oth g (World.ownsRow.lt h.co g hg).2 (h.ne g hg)))
 ·have h3:=hR.own
  rw[show ({ acc with procs:=acc.procs ++ [c] } : SrcS).procs.length=acc.procs.length+1 by simp]
  exact ownsRow_same h3 (fun g hg=>hoth g (by have:=(World.ownsRow.lt h3 g hg).1;omega))
 ·intro g hg
  exact hne g (World.ownsRow.lt h.co g hg).2 (h.ne g hg)
 ·exact (h.cc.lt okCo_lt).kept okCo_f hP (fun k hk hl=>hS k hk.1 hl)
 ·refine Els.app hl (okPr_f _ _ _ _ _ _ (okPr_lt _ _ _ _ hc) (fun k hk=>?_) (fun k hk hl=>?_)) ((h.pp.lt okPr_lt).kept okPr_f hP (fun k hk hl=>hS k hk.1 hl))
  ·have hk1:M≤k:=hk.1.elim (fun h=>h.elim) id
   exact⟨by omega,fun e=>by have:=hM k (.inl e);omega,hne k hk.2 (fun e=>by have:=hM k (.inr e);omega)⟩
  ·have hk1:M≤k:=hk.1.elim (fun h=>h.elim) id
   exact hS k ⟨by omega,fun e=>by have:=hM k (.inl e);omega,fun e=>by have:=hM k (.inr e);omega⟩ hl
 ·show acc.consts.length+(acc.procs ++ [c]).length+ts.length≤70000
  rw[List.length_append,List.length_singleton]
  exact hln
theorem cS {p:Prop} {a s:Nat} (h:p) (k:a < s):p∧a+1≤s:=⟨h,k⟩
theorem cU {p:Prop} {a s t:Nat} (h:p∧a≤s) (k:s≤t):p∧a≤t:=⟨h.1,Nat.le_trans h.2 k⟩
theorem cM {p:Prop} {a s n:Nat} (h:p∧a≤s) (e:n=s):(p∧a≤n)∧n≤s:=⟨⟨h.1,e▸h.2⟩,Nat.le_of_eq e⟩
theorem cA {p:Prop} {a s n t:Nat} (h:p∧a≤s) (e:n=s) (k:n < t):(p∧a≤n)∧n+1≤t:=⟨⟨h.1,e▸h.2⟩,k⟩
theorem PR.bind_inv {α β:Type} {a:PR α} {f:α→List Tok→PR β} {y:β} {r:List Tok} (h:a.bind f=.ok y r):∃x t,a=.ok x t∧f x t=.ok y r:=by
 cases a with
 | ok x t=>exact⟨x,t,rfl,h⟩
 | er p e=>cases h
def toU {α:Type} (s:PR α):PR Unit:=s.bind fun _ ts=>.ok () ts
theorem toU_bind {α β:Type} (s:PR α) (f:List Tok→PR β):((toU s).bind fun _ ts=>f ts)=s.bind fun _ ts=>f ts:=by cases s <;> rfl
theorem pkS_toU {α:Type} (s:PR α):pkS (toU s)=pkS s:=by cases s <;> rfl
def Like {α β:Type} (s:PR α) (G:PR β):Prop:=(∀u r,s=.ok u r→∃y,G=.ok y r)∧(∀p x,s=.er p x→G=.er p x)
section
variable {α β:Type} {w W W':World} {pb nest nest':Nat} {al:Value} {L:List Tok} {en:Nat × Nat} {s:PR α} {G:PR β}
theorem DS.toU (h:DS W pb al L en nest s):DS W pb al L en nest (toU s):=by
 cases s with
 | ok y ts=>exact h
 | er p x=>exact h
theorem DS.like (h:DS W pb al L en nest s) (hl:Like s G):DS W pb al L en nest G:=by
 cases s with
 | ok y ts=>
  obtain⟨z,rfl⟩:=hl.1 y ts rfl
  exact h
 | er p x=>
  rw[hl.2 p x rfl]
  exact h
theorem DS.low {c:Nat} (h:DS W pb al L en nest s) (hb:Below c W W') (hc:pb < c):DS W' pb al L en nest s:=by
 have hk:∀j,j≤pb→W'.heap[j]? = W.heap[j]?:=fun j hj=>hb.block j (by omega)
 cases s with
 | ok y ts=>
  obtain⟨h0,k,h1,h2,h3,h4⟩:=h
  exact⟨h0,k,h1,h2,(hk pb (Nat.le_refl _)).trans h3,h4.same (fun j hj=>hk j (Nat.le_of_lt hj))⟩
 | er p x=>
  obtain⟨h0,k,h1,h3,h4⟩:=h
  exact⟨h0,k,h1,(hk pb (Nat.le_refl _)).trans h3,h4.same (fun j hj=>hk j (Nat.le_of_lt hj))⟩
theorem DS.lt (h:DS W pb al L en nest s):pb < W.heap.size:=by
 cases s with
 | ok y ts=>obtain⟨_,k,_,_,h3,_⟩:=h;exact blk_lt h3
 | er p x=>obtain⟨_,k,_,h3,_⟩:=h;exact blk_lt h3
theorem DS.er_ne {p:Nat × Nat} {x:Nat} (h:DS W pb al L en nest (PR.er p x:PR α)):(PR.er p x:PR β)≠.er (0,0) 0:=fun e=>by
 have:=h.1
 simp only[PR.er.injEq] at e
 exact this e.2
structure DQ {α:Type} (w W:World) (pb:Nat) (al:Value) (L:List Tok) (en:Nat × Nat) (nest:Nat) (s:PR α):Prop where
 lt:pb < w.heap.size
 t1:T1 pb w W
 ds:DS W pb al L en nest s
theorem DQ.start (h:DS w pb al L en nest s):DQ w w pb al L en nest s:=⟨h.lt,T1.bel (Below.refl _ _),h⟩
theorem DQ.bel (h:DQ w W pb al L en nest s) (hb:Below W.heap.size W W'):DQ w W' pb al L en nest s:=⟨h.lt,h.t1.trans (T1.bel hb),h.ds.kept hb⟩
theorem DQ.call (h:DQ w W pb al L en nest s) (ht:T1 pb W W') (hd:DS W' pb al L en nest' G):DQ w W' pb al L en nest' G:=⟨h.lt,h.t1.trans ht,hd⟩
theorem DQ.low (h:DQ w W pb al L en nest s) (hb:Below w.heap.size W W'):DQ w W' pb al L en nest s:=⟨h.lt,h.t1.low hb,h.ds.low hb h.lt⟩
theorem DQ.ge (h:DQ w W pb al L en nest s):w.heap.size≤W.heap.size:=h.t1.size
end
def OV {α:Type} (okv:(Nat→Prop)→α→Value→World→Prop) (P:Nat→Prop) (G:PR α) (v:Value) (W:World):Prop:=∀x r,G=.ok x r→okv P x v W
section
variable {α:Type} {okv:(Nat→Prop)→α→Value→World→Prop} {P P':Nat→Prop} {G:PR α} {v:Value} {W W':World}
theorem OV.keep (h:OV okv P G v W) (hok:OkvF okv) (hp:∀k,P k→P' k) (hs:∀k,P k→k < W.heap.size→W'.heap[k]? = W.heap[k]?):OV okv P' G v W':=fun x r e=>hok _ _ _ _ _ _ (h x r e) hp hs
theorem OV.bel (h:OV okv P G v W) (hok:OkvF okv) (hb:Below W.heap.size W W'):OV okv P G v W':=h.keep hok (fun _ q=>q) (fun k _ hl=>hb.block k hl)
theorem OV.t1 {sb:Nat} (h:OV okv P G v W) (hok:OkvF okv) (ht:T1 sb W W') (hn:∀k,P k→k≠sb):OV okv P G v W':=h.keep hok (fun _ q=>q) (fun k hk hl=>ht.block k hl (hn k hk))
theorem OV.low (h:OV okv P G v W) (hok:OkvF okv) (hs:∀k,P k→k < W.heap.size→W'.heap[k]? = W.heap[k]?):OV okv P G v W':=h.keep hok (fun _ q=>q) hs
end
def A7 (v:Value):Prop:=∃(k o n l c:Int) (s:ByteArray) (ao:Option Addr) (q qc:Nat),v=.agg #[Zi k,Zi o,Zi n,.string s,.slice ao q qc,Zi l,Zi c]
def A3 (v:Value):Prop:=∃(s:ByteArray) (l c:Int),v=.agg #[.string s,Zi l,Zi c]
def ASl (v:Value):Prop:=∃(ao:Option Addr) (q qc:Nat),v=.slice ao q qc
def AStr (v:Value):Prop:=∃s:ByteArray,v=.string s
def A20 (v:Value):Prop:=∃(k xk xo xn xl xc yk yo yn yl yc l c:Int) (s xs ys:ByteArray) (xa ya ba ea:Option Addr) (xq xqc yq yqc bq bqc eq eqc:Nat),v=.agg #[Zi k,.string s,Zi xk,Zi xo,Zi xn,.string xs,.slice xa xq xqc,Zi xl,Zi xc,Zi yk,Zi yo,Zi yn,.string ys,.slice ya yq yqc,Zi yl,Zi yc,.slice ba bq bqc,.slice ea eq eqc,Zi l,Zi c]
def DP {α:Type} (A:Value→Prop) (w:World) (pb:Nat) (al:Value) (L:List Tok) (en:Nat × Nat) (nest:Nat) (G:PR α) (okv:α→Value→World→Prop) (e:Ending) (w':World):Prop:=
 ∃v,e=.returned v∧A v∧DS w' pb al L en nest G∧T1 pb w w'∧∀x r,G=.ok x r→okv x v w'
def okT (_:Nat→Prop) (n:List UInt8) (v:Value) (_:World):Prop:=v=.string (S n)
def RowP (W:World) (R:Nat) (v0 v1:Value):Prop:=W.heap[R]? = some (.cells #[v0,v1] 43 (0,0))
theorem RowP.kept {w w':World} {R:Nat} {v0 v1:Value} (h:RowP w R v0 v1) (hb:Below w.heap.size w w'):RowP w' R v0 v1:=(hb.block _ (blk_lt h)).trans h
theorem RowP.t1 {sb:Nat} {w w':World} {R:Nat} {v0 v1:Value} (h:RowP w R v0 v1) (ht:T1 sb w w') (hn:R≠sb):RowP w' R v0 v1:=(ht.block R (blk_lt h) hn).trans h
theorem RowP.cells {W:World} {R:Nat} {v0 v1:Value} (h:RowP W R v0 v1):(W.cell? ⟨R,0,none⟩=some v0∧W.cell? ⟨R,1,none⟩=some v1)∧W.frozen? ⟨R,0,none⟩=false∧W.frozen? ⟨R,1,none⟩=false:=by
 unfold RowP at h
 exact⟨⟨by simp[World.cell?,h],by simp[World.cell?,h]⟩,frozen_of_row W R 0 _ _ h,frozen_of_row W R 1 _ _ h⟩
section
variable {α:Type} {w W:World} {pb nest:Nat} {al:Value} {L:List Tok} {en:Nat × Nat} {okv:(Nat→Prop)→α→Value→World→Prop} {P P':Nat→Prop} {G:PR α}
theorem dres7 {R:Nat} {a0 a1 a2 a3 a4 a5 a6 z0 z1 z2 z3 z4 z5 z6:Value} (hq:DQ w W pb al L en nest G) (hR:w.heap.size≤R) (hz:Row7 W R z0 z1 z2 z3 z4 z5 z6) (hA:A7 (.agg #[a0,a1,a2,a3,a4,a5,a6])) (hok:OkvF okv) (hv:OV okv P G (.agg #[a0,a1,a2,a3,a4,a5,a6]) W) (hP:∀k,P k→P' k∧k≠R) :
  Row7 (put7 W R a0 a1 a2 a3 a4 a5 a6) R a0 a1 a2 a3 a4 a5 a6∧DP A7 w pb al L en nest G (okv P') (.returned (.agg #[a0,a1,a2,a3,a4,a5,a6])) (put7 W R a0 a1 a2 a3 a4 a5 a6):=by
 have hp:Below w.heap.size W (put7 W R a0 a1 a2 a3 a4 a5 a6):=put7_below (Below.refl _ _) hR _ _ _ _ _ _ _
 have hq2:=hq.low hp
 refine⟨hz.put _ _ _ _ _ _ _,_,rfl,hA,hq2.ds,hq2.t1,fun x r e=>hok _ _ _ _ _ _ (hv x r e) (fun k hk=>(hP k hk).1) (fun k hk _=>put7_other (hP k hk).2 _ _ _ _ _ _ _)⟩
end
theorem OV.res {α:Type} {okv:(Nat→Prop)→α→Value→World→Prop} {G:PR α} {v:Value} {n:Nat} {W W':World} {P:Nat→Prop} (hv:∀x r,G=.ok x r→okv (New noB n) x v W) (hok:OkvF okv) (hlt:∀P x v W,okv P x v W→okv (ltB P W.heap.size) x v W) (hb:Below W.heap.size W W') (hP:∀k,n≤k→k < W.heap.size→P k):OV okv P G v W':=fun x r e=>
 hok _ _ _ _ _ _ (hlt _ _ _ _ (hv x r e)) (fun k hk=>by
  obtain⟨h1 | h1,h2⟩:=hk
  ·exact h1.elim
  ·exact hP k h1 h2) (fun k _ hl=>hb.block k hl)
theorem okE_lt' (P:Nat→Prop) (x:Ex) (v:Value) (W:World) (h:okE P x v W):okE (ltB P W.heap.size) x v W:=okE_lt h
theorem okN_lt' (P:Nat→Prop) (x:NmP) (v:Value) (W:World) (h:okN P x v W):okN (ltB P W.heap.size) x v W:=h
theorem OV.mono {α:Type} {okv:(Nat→Prop)→α→Value→World→Prop} {G:PR α} {v:Value} {n:Nat} {W:World} {P:Nat→Prop} (hv:∀x r,G=.ok x r→okv (New noB n) x v W) (hok:OkvF okv) (hlt:∀P x v W,okv P x v W→okv (ltB P W.heap.size) x v W) (hP:∀k,n≤k→k < W.heap.size→P k):OV okv P G v W:=OV.res hv hok hlt (Below.refl _ _) hP
def dpE (en:Nat × Nat) (f rank nest:Nat) (ts:List Tok):PR Ex:=if rank=1 then pWh en f nest ts else pJo en f (rank - 1) nest ts
section
variable (pb:Nat) (al:Value) (L:List Tok) (en:Nat × Nat) (f:Nat)
def DCx:Prop:=∀(U:World) (s:PR Unit) (nest rank:Nat),1≤rank→rank≤11→DS U pb al L en nest s→(s.bind fun _ ts=>dpE en f rank nest ts)≠.er (0,0) 0→Calls Tryz.prog 57 #[Zp pb,Zi (rank:Int)] U (DP A7 U pb al L en nest (s.bind fun _ ts=>dpE en f rank nest ts) (okE (New noB U.heap.size)))
def DCw:Prop:=∀(U:World) (s:PR Unit) (nest:Nat),DS U pb al L en nest s→(s.bind fun _ ts=>pWh en f nest ts)≠.er (0,0) 0→Calls Tryz.prog 57 #[Zp pb,Zi 1] U (DP A7 U pb al L en nest (s.bind fun _ ts=>pWh en f nest ts) (okE (New noB U.heap.size)))
def DCc:Prop:=∀(U:World) (ts:List Tok) (nest:Nat),DS U pb al L en nest (.ok () ts:PR Unit)→pWh en f nest ts≠.er (0,0) 0→Calls Tryz.prog 91 #[Zp pb] U (DP A7 U pb al L en nest (pWh en f nest ts) (okE (New noB U.heap.size)))
def DCu:Prop:=∀(U:World) (s:PR Unit) (nest:Nat),DS U pb al L en nest s→(s.bind fun _ ts=>pUn en f nest ts)≠.er (0,0) 0→Calls Tryz.prog 92 #[Zp pb] U (DP A7 U pb al L en nest (s.bind fun _ ts=>pUn en f nest ts) (okE (New noB U.heap.size)))
def DCp:Prop:=∀(U:World) (s:PR Unit) (nest:Nat),DS U pb al L en nest s→(s.bind fun _ ts=>pPr en f nest ts)≠.er (0,0) 0→Calls Tryz.prog 93 #[Zp pb] U (DP A7 U pb al L en nest (s.bind fun _ ts=>pPr en f nest ts) (okE (New noB U.heap.size)))
def pTw (nest:Nat) (ts:List Tok):PR (Ex × Ex):=pBr en nest [40] [41] ts fun ns r1=>(pWh en f ns r1).bind fun x r2=>(pMust en [44] r2).bind fun _ r3=>(pWh en f ns r3).bind fun y r4=>.ok (x,y) r4
end
theorem DCx.w {pb:Nat} {al:Value} {L:List Tok} {en:Nat × Nat} {f:Nat} (h:DCx pb al L en f):DCw pb al L en f:=fun U s nest hd hn=>h U s nest 1 (by omega) (by omega) hd hn
theorem dspot_any {α:Type} (W:World) (pb:Nat) (al:Value) (L:List Tok) (en:Nat × Nat) (nest:Nat) (s:PR α) (h:DS W pb al L en nest s):∃p:Nat × Nat,(∀x ts,s=.ok x ts→p=nxtP en ts)∧Calls Tryz.prog 62 #[Zp pb] W fun e w'=>e=.returned (.agg #[Zi (p.1:Int),Zi (p.2:Int)])∧Below W.heap.size W w':=by
 cases s with
 | ok y ts=>
  obtain⟨h0,k,h1,rfl,h3,h4⟩:=h
  exact⟨nxtP en (L.drop k),fun x ts e=>by cases e;rfl,spot_k W pb al L k en (0,0) 0 nest h1 h3 h4⟩
 | er p x=>
  obtain⟨h0,k,h1,h3,h4⟩:=h
  exact⟨nxtP en (L.drop k),fun x ts e=>(by cases e),spot_k W pb al L k en p x nest h1 h3 h4⟩
end Go.Proofs.YtlfooogmoigpfaaGreatDoor
namespace Go.Proofs.YtlfooogmoigpfaaGreatDoor
theorem like_er {α β:Type} (p:Nat × Nat) (e:Nat):Like (PR.er p e:PR α) (PR.er p e:PR β):=⟨fun _ _ h=>(by cases h),fun _ _ h=>(by cases h;rfl)⟩
theorem like_ok {α β:Type} (x:α) (y:β) (r:List Tok):Like (PR.ok x r) (PR.ok y r):=⟨fun _ _ h=>(by cases h;exact⟨y,rfl⟩),fun _ _ h=>(by cases h)⟩
theorem like_unit {α β:Type} (s:PR α) (g:α→β):Like s (s.bind fun x r=>.ok (g x) r):=by
 cases s with
 | ok x r=>exact like_ok _ _ _
 | er p e=>exact like_er p e
theorem pBr_op {α:Type} (en:Nat × Nat) (nest:Nat) (s1 s2:List UInt8) (ts:List Tok) (inner:Nat→List Tok→PR α):pBr en nest s1 s2 ts inner=(pOp en nest s1 ts).bind fun _ r=>(inner (nest+1) r).bind fun x r2=>(pMust en s2 r2).bind fun _ r3=>.ok x r3:=by
 unfold pBr pOp pOpen
 split
 ·split
  ·rfl
  ·rfl
 ·rfl
theorem pOpen_op {α:Type} (en:Nat × Nat) (nest:Nat) (t:List UInt8) (ts:List Tok) (ht:nxtT ts=t) (inner:Nat→List Tok→PR α):pOpen en nest ts inner=(pOp en nest t ts).bind fun _ r=>inner (nest+1) r:=by
 unfold pOp pOpen
 rw[if_pos ht]
 split
 ·rfl
 ·rfl
theorem like1 {β γ:Type} (a:PR Unit) (fx:List Tok→PR β) (fc:List Tok→PR Unit) (F:β→γ) :
  Like ((a.bind fun _ t=>fx t).bind fun _ t=>fc t) (a.bind fun _ t=>(fx t).bind fun x t=>(fc t).bind fun _ t=>.ok (F x) t)∧
  (∀X r,(a.bind fun _ t=>(fx t).bind fun x t=>(fc t).bind fun _ t=>.ok (F x) t)=.ok X r→∃x rx,(a.bind fun _ t=>fx t)=.ok x rx∧X=F x)∧
  (∀p e,(a.bind fun _ t=>fx t)=.er p e→(a.bind fun _ t=>(fx t).bind fun x t=>(fc t).bind fun _ t=>PR.ok (F x) t)=.er p e):=by
 cases a with
 | er p e=>exact⟨like_er p e,fun _ _ h=>(by cases h),fun _ _ h=>(by cases h;rfl)⟩
 | ok u t=>
  simp only[PR.bind_ok]
  cases fx t with
  | er p e=>exact⟨like_er p e,fun _ _ h=>(by cases h),fun _ _ h=>(by cases h;rfl)⟩
  | ok x t2=>
   simp only[PR.bind_ok]
   cases fc t2 with
   | er p e=>exact⟨like_er p e,fun _ _ h=>(by cases h),fun _ _ h=>(by cases h)⟩
   | ok u2 t3=>exact⟨like_ok _ _ _,fun _ _ h=>(by cases h;exact⟨x,t2,rfl,rfl⟩),fun _ _ h=>(by cases h)⟩
theorem like2 {β β2 γ:Type} (a:PR Unit) (fx:List Tok→PR β) (fm:List Tok→PR Unit) (fy:List Tok→PR β2) (fc:List Tok→PR Unit) (F:β→β2→γ) :
  Like ((((a.bind fun _ t=>fx t).bind fun _ t=>fm t).bind fun _ t=>fy t).bind fun _ t=>fc t) (a.bind fun _ t=>(fx t).bind fun x t=>(fm t).bind fun _ t=>(fy t).bind fun y t=>(fc t).bind fun _ t=>.ok (F x y) t)∧
  (∀X r,(a.bind fun _ t=>(fx t).bind fun x t=>(fm t).bind fun _ t=>(fy t).bind fun y t=>(fc t).bind fun _ t=>.ok (F x y) t)=.ok X r→∃x rx y ry,(a.bind fun _ t=>fx t)=.ok x rx∧(((a.bind fun _ t=>fx t).bind fun _ t=>fm t).bind fun _ t=>fy t)=.ok y ry∧X=F x y)∧
  (∀p e,(a.bind fun _ t=>fx t)=.er p e→(a.bind fun _ t=>(fx t).bind fun x t=>(fm t).bind fun _ t=>(fy t).bind fun y t=>(fc t).bind fun _ t=>PR.ok (F x y) t)=.er p e)∧
  (∀p e,(((a.bind fun _ t=>fx t).bind fun _ t=>fm t).bind fun _ t=>fy t)=.er p e→(a.bind fun _ t=>(fx t).bind fun x t=>(fm t).bind fun _ t=>(fy t).bind fun y t=>(fc t).bind fun _ t=>PR.ok (F x y) t)=.er p e):=by
 cases a with
 | er p e=>exact⟨like_er p e,fun _ _ h=>(by cases h),fun _ _ h=>(by cases h;rfl),fun _ _ h=>(by cases h;rfl)⟩
 | ok u t=>
  simp only[PR.bind_ok]
  cases fx t with
  | er p e=>exact⟨like_er p e,fun _ _ h=>(by cases h),fun _ _ h=>(by cases h;rfl),fun _ _ h=>(by cases h;rfl)⟩
  | ok x t2=>
   simp only[PR.bind_ok]
   cases fm t2 with
   | er p e=>exact⟨like_er p e,fun _ _ h=>(by cases h),fun _ _ h=>(by cases h),fun _ _ h=>(by cases h;rfl)⟩
   | ok u2 t3=>
    simp only[PR.bind_ok]
    cases fy t3 with
    | er p e=>exact⟨like_er p e,fun _ _ h=>(by cases h),fun _ _ h=>(by cases h),fun _ _ h=>(by cases h;rfl)⟩
    | ok y t4=>
     simp only[PR.bind_ok]
     cases fc t4 with
     | er p e=>exact⟨like_er p e,fun _ _ h=>(by cases h),fun _ _ h=>(by cases h),fun _ _ h=>(by cases h)⟩
     | ok u3 t5=>exact⟨like_ok _ _ _,fun _ _ h=>(by cases h;exact⟨x,t2,y,t4,rfl,rfl,rfl⟩),fun _ _ h=>(by cases h),fun _ _ h=>(by cases h)⟩
end Go.Proofs.YtlfooogmoigpfaaGreatDoor
namespace Go.Proofs.YtlfooogmoigpfaaGreatDoor
open Go.RowKit Go.Sort Go.Shelf
theorem pBad_no {α β:Type} {en:Nat × Nat} {s:PR α} {x:β} {r:List Tok} (h:(pBad en s:PR β)=.ok x r):False:=by
 cases s with
 | ok y ts=>cases h
 | er p e=>cases h
section
variable {α:Type} {w W:World} {pb nest:Nat} {al:Value} {L:List Tok} {en:Nat × Nat} {okv:(Nat→Prop)→α→Value→World→Prop} {P P':Nat→Prop} {G:PR α}
theorem put3_other {W:World} {B k:Nat} (hk:k≠B) (a0 a1 a2:Value):(put3 W B a0 a1 a2).heap[k]? = W.heap[k]?:=by
 simp only[put3]
 rw[heap_setCell_other _ _ _ _ hk,heap_setCell_other _ _ _ _ hk,heap_setCell_other _ _ _ _ hk]
theorem dres3 {R:Nat} {a0 a1 a2 z0 z1 z2:Value} (hq:DQ w W pb al L en nest G) (hR:w.heap.size≤R) (hz:Row3 W R z0 z1 z2) (hA:A3 (.agg #[a0,a1,a2])) (hok:OkvF okv) (hv:OV okv P G (.agg #[a0,a1,a2]) W) (hP:∀k,P k→P' k∧k≠R) :
  Row3 (put3 W R a0 a1 a2) R a0 a1 a2∧DP A3 w pb al L en nest G (okv P') (.returned (.agg #[a0,a1,a2])) (put3 W R a0 a1 a2):=by
 have hp:Below w.heap.size W (put3 W R a0 a1 a2):=(((Below.refl _ W).setCell (p:=⟨R,0,none⟩) hR a0).setCell (p:=⟨R,1,none⟩) hR a1).setCell (p:=⟨R,2,none⟩) hR a2
 have hq2:=hq.low hp
 refine⟨hz.put _ _ _,_,rfl,hA,hq2.ds,hq2.t1,fun x r e=>hok _ _ _ _ _ _ (hv x r e) (fun k hk=>(hP k hk).1) (fun k hk _=>put3_other (hP k hk).2 _ _ _)⟩
end
theorem dname_er {α:Type} (w:World) (pb:Nat) (al:Value) (L:List Tok) (en:Nat × Nat) (nest:Nat) (p:Nat × Nat) (x k:Nat) (hx:x≠0) (hk:k≤L.length) (h3:DBx w pb al k en p x nest) (h4:TsAt w pb al L):Calls Tryz.prog 33 #[Zp pb] w (DP A3 w pb al L en nest (pBad en (PR.er p x:PR α):PR NmP) (okN (New noB w.heap.size))):=by
 have hds:DS w pb al L en nest (PR.er p x:PR α):=⟨hx,k,hk,h3,h4⟩
 obtain⟨s,hs⟩:=nm ((PR.er p x:PR α))
 rw[← hs] at hds ⊢
 clear hs
 obtain⟨u1,hu1⟩:=nm (w.alloc (.cells #[Ze,Zi 0,Zi 0] 89))
 have hb0:Below w.heap.size w u1:=by rw[hu1];exact bel_al _ _
 have HQ:=Zh ((DQ.start hds).bel hb0)
 have HR:Hid (Row3 u1 w.heap.size (Ze) (Zi 0) (Zi 0)):=Zh (by rw[hu1];exact heap_alloc_new _ _ rfl)
 have HC:=Zh (cS HQ.out.lt (blk_lt HR.out))
 clear hb0
 have hx3:=h3.kept (show Below w.heap.size w u1 by rw[hu1];exact bel_al _ _)
 obtain⟨_,_,_,_,_,_,c6,_⟩:=hx3.cells
 obtain⟨xi,hxi⟩:∃xi:Int,xi=(x:Int):=⟨_,rfl⟩
 rw[← hxi] at c6
 have hd:(xi != 0)=true:=by simp;omega
 clear hxi hk h4 hx
 clear hx3 h3
 clear hds
 go_enter Tryz.func33,Tryz.ntmps33
 go_upto_region 1 with fail
 rw[← hu1]
 clear hu1
 go_quiet (fail)
 have hb:Below u1.heap.size u1 (u1.drewN nq):=((Grew.refl u1).drewN nq).below
 replace HR:=Zh (HR.out.kept hb)
 replace HQ:=Zh (HQ.out.bel hb)
 replace HC:=Zh (cU HC.out hb.size)
 clear hb c6 hd
 generalize u1.drewN nq=u2 at *
 go_wp2_with fail
 refine (show Calls Tryz.prog 37 #[Zp pb] u2 (fun e w'=>e=.returned (.tuple #[])∧DS w' pb al L en nest (pBad en s:PR NmP)∧T1 pb u2 w') from bad_any u2 pb al L en nest s HQ.out.ds).mono ?_
 rintro e u3 ⟨rfl,hds,ht⟩
 replace HR:=Zh (HR.out.t1 ht (by have:=HC.out;omega))
 replace HQ:=Zh (HQ.out.call ht hds)
 replace HC:=Zh (cU HC.out ht.size)
 clear ht hds
 have HF:=Zh (dres3 (a0:=Ze) (a1:=Zi 0) (a2:=Zi 0) (P:=fun _=>False) (P':=New noB w.heap.size) HQ.out (Nat.le_refl _) HR.out ⟨_,_,_,rfl⟩ okN_f (fun x r e=>(pBad_no e).elim) (fun k hk=>hk.elim))
 obtain⟨_,f0,f1,f2⟩:=HR.out.cells
 clear HQ HR HC
 go_wp2_with fail
 obtain⟨⟨d0,d1,d2⟩,_⟩:=HF.out.1.cells
 exact bodyPost_ret (v:=.agg #[Ze,Zi 0,Zi 0]) (by simp[results,Tryz.results33,go_sem,d0,d1,d2]) rfl HF.out.2
theorem dname_end {α:Type} (w:World) (pb:Nat) (al:Value) (L:List Tok) (en:Nat × Nat) (nest:Nat) (y:α) (k:Nat) (hn:nest≤200) (hk:k≤L.length) (hke:k=L.length) (h3:DBx w pb al k en (0,0) 0 nest) (h4:TsAt w pb al L):Calls Tryz.prog 33 #[Zp pb] w (DP A3 w pb al L en nest (pBad en (PR.ok y (L.drop k):PR α):PR NmP) (okN (New noB w.heap.size))):=by
 have hds:DS w pb al L en nest (PR.ok y (L.drop k):PR α):=⟨hn,k,hk,rfl,h3,h4⟩
 obtain⟨s,hs⟩:=nm ((PR.ok y (L.drop k):PR α))
 rw[← hs] at hds ⊢
 clear hs
 obtain⟨u1,hu1⟩:=nm (w.alloc (.cells #[Ze,Zi 0,Zi 0] 89))
 have hb0:Below w.heap.size w u1:=by rw[hu1];exact bel_al _ _
 have HQ:=Zh ((DQ.start hds).bel hb0)
 have HR:Hid (Row3 u1 w.heap.size (Ze) (Zi 0) (Zi 0)):=Zh (by rw[hu1];exact heap_alloc_new _ _ rfl)
 have HC:=Zh (cS HQ.out.lt (blk_lt HR.out))
 clear hb0
 have hx3:=h3.kept (show Below w.heap.size w u1 by rw[hu1];exact bel_al _ _)
 obtain⟨ao,c,hal,_⟩:=h4
 obtain⟨c0,c1,_,_,_,_,c6,_⟩:=hx3.cells
 rw[hal] at c0
 have c6:u1.cell? ⟨pb,6,none⟩=some (Zi 0):=c6
 subst hke
 clear hk hn
 clear hx3 h3
 clear hds
 go_enter Tryz.func33,Tryz.ntmps33
 go_upto_region 1 with fail
 rw[← hu1]
 clear hu1
 go_quiet (fail)
 have hb:Below u1.heap.size u1 (u1.drewN nq):=((Grew.refl u1).drewN nq).below
 replace HR:=Zh (HR.out.kept hb)
 replace HQ:=Zh (HQ.out.bel hb)
 replace HC:=Zh (cU HC.out hb.size)
 clear hb c0 c1 c6
 generalize u1.drewN nq=u2 at *
 go_wp2_with fail
 refine (show Calls Tryz.prog 37 #[Zp pb] u2 (fun e w'=>e=.returned (.tuple #[])∧DS w' pb al L en nest (pBad en s:PR NmP)∧T1 pb u2 w') from bad_any u2 pb al L en nest s HQ.out.ds).mono ?_
 rintro e u3 ⟨rfl,hds,ht⟩
 replace HR:=Zh (HR.out.t1 ht (by have:=HC.out;omega))
 replace HQ:=Zh (HQ.out.call ht hds)
 replace HC:=Zh (cU HC.out ht.size)
 clear ht hds
 have HF:=Zh (dres3 (a0:=Ze) (a1:=Zi 0) (a2:=Zi 0) (P:=fun _=>False) (P':=New noB w.heap.size) HQ.out (Nat.le_refl _) HR.out ⟨_,_,_,rfl⟩ okN_f (fun x r e=>(pBad_no e).elim) (fun k hk=>hk.elim))
 obtain⟨_,f0,f1,f2⟩:=HR.out.cells
 clear HQ HR HC
 go_wp2_with fail
 obtain⟨⟨d0,d1,d2⟩,_⟩:=HF.out.1.cells
 exact bodyPost_ret (v:=.agg #[Ze,Zi 0,Zi 0]) (by simp[results,Tryz.results33,go_sem,d0,d1,d2]) rfl HF.out.2
theorem dname_tok {α:Type} (w:World) (pb:Nat) (al:Value) (L:List Tok) (en:Nat × Nat) (nest:Nat) (y:α) (k:Nat) (t:Tok) (rest:List Tok) (hn:nest≤200) (hk:k≤L.length) (hd:L.drop k=t :: rest) (ht:t.1≠1) (h3:DBx w pb al k en (0,0) 0 nest) (h4:TsAt w pb al L):Calls Tryz.prog 33 #[Zp pb] w (DP A3 w pb al L en nest (pBad en (PR.ok y (L.drop k):PR α):PR NmP) (okN (New noB w.heap.size))):=by
 have hds:DS w pb al L en nest (PR.ok y (L.drop k):PR α):=⟨hn,k,hk,rfl,h3,h4⟩
 obtain⟨s,hs⟩:=nm ((PR.ok y (L.drop k):PR α))
 rw[← hs] at hds ⊢
 clear hs
 obtain⟨u1,hu1⟩:=nm (w.alloc (.cells #[Ze,Zi 0,Zi 0] 89))
 have hb0:Below w.heap.size w u1:=by rw[hu1];exact bel_al _ _
 have HQ:=Zh ((DQ.start hds).bel hb0)
 have HR:Hid (Row3 u1 w.heap.size (Ze) (Zi 0) (Zi 0)):=Zh (by rw[hu1];exact heap_alloc_new _ _ rfl)
 have HC:=Zh (cS HQ.out.lt (blk_lt HR.out))
 clear hb0
 have hx3:=h3.kept (show Below w.heap.size w u1 by rw[hu1];exact bel_al _ _)
 obtain⟨g,o,c,hal,hg,hkn,d0,_⟩:=tsAt_tok h4 hd
 obtain⟨c0,c1,_,_,_,_,c6,_⟩:=hx3.cells
 rw[hal] at c0
 have c6:u1.cell? ⟨pb,6,none⟩=some (Zi 0):=c6
 have d0:=((show Below w.heap.size w u1 by rw[hu1];exact bel_al _ _).cell (p:=⟨g,o+k * 5,none⟩) (Nat.lt_trans hg (blk_lt h3))).trans d0
 obtain⟨ki,hki⟩:∃ki:Int,ki=(t.1:Int):=⟨_,rfl⟩
 rw[← hki] at d0
 have hd1:(ki != 1)=true:=by simp;omega
 have hgd:decide (L.length≤k)=false:=by simp;omega
 have hgk:(k:Int) < (L.length:Int):=by omega
 generalize L.length=nn at *
 clear hki hk hkn hg hn
 clear hx3 h3 hd
 clear hds
 go_enter Tryz.func33,Tryz.ntmps33
 go_upto_region 1 with fail
 rw[← hu1]
 clear hu1
 go_quiet (fail)
 have hb:Below u1.heap.size u1 (u1.drewN nq):=((Grew.refl u1).drewN nq).below
 replace HR:=Zh (HR.out.kept hb)
 replace HQ:=Zh (HQ.out.bel hb)
 replace HC:=Zh (cU HC.out hb.size)
 clear hb c0 c1 c6 d0 hd1 hgd hgk
 generalize u1.drewN nq=u2 at *
 go_wp2_with fail
 refine (show Calls Tryz.prog 37 #[Zp pb] u2 (fun e w'=>e=.returned (.tuple #[])∧DS w' pb al L en nest (pBad en s:PR NmP)∧T1 pb u2 w') from bad_any u2 pb al L en nest s HQ.out.ds).mono ?_
 rintro e u3 ⟨rfl,hds,ht⟩
 replace HR:=Zh (HR.out.t1 ht (by have:=HC.out;omega))
 replace HQ:=Zh (HQ.out.call ht hds)
 replace HC:=Zh (cU HC.out ht.size)
 clear ht hds
 have HF:=Zh (dres3 (a0:=Ze) (a1:=Zi 0) (a2:=Zi 0) (P:=fun _=>False) (P':=New noB w.heap.size) HQ.out (Nat.le_refl _) HR.out ⟨_,_,_,rfl⟩ okN_f (fun x r e=>(pBad_no e).elim) (fun k hk=>hk.elim))
 obtain⟨_,f0,f1,f2⟩:=HR.out.cells
 clear HQ HR HC
 go_wp2_with fail
 obtain⟨⟨d0,d1,d2⟩,_⟩:=HF.out.1.cells
 exact bodyPost_ret (v:=.agg #[Ze,Zi 0,Zi 0]) (by simp[results,Tryz.results33,go_sem,d0,d1,d2]) rfl HF.out.2
theorem dname_ok {α:Type} (w:World) (pb:Nat) (al:Value) (L:List Tok) (en:Nat × Nat) (nest:Nat) (hlen:L.length≤70000) (y:α) (k:Nat) (t:Tok) (rest:List Tok) (hn:nest≤200) (hk:k≤L.length) (hd:L.drop k=t :: rest) (ht:t.1=1) (h3:DBx w pb al k en (0,0) 0 nest) (h4:TsAt w pb al L):Calls Tryz.prog 33 #[Zp pb] w (DP A3 w pb al L en nest (PR.ok (t.2.1,t.2.2.2) rest:PR NmP) (okN (New noB w.heap.size))):=by
 have hds:DS w pb al L en nest (PR.ok y (L.drop k):PR α):=⟨hn,k,hk,rfl,h3,h4⟩
 obtain⟨u1,hu1⟩:=nm (w.alloc (.cells #[Ze,Zi 0,Zi 0] 89))
 have hb0:Below w.heap.size w u1:=by rw[hu1];exact bel_al _ _
 have HQ:=Zh ((DQ.start hds).bel hb0)
 have HR:Hid (Row3 u1 w.heap.size (Ze) (Zi 0) (Zi 0)):=Zh (by rw[hu1];exact heap_alloc_new _ _ rfl)
 have HC:=Zh (cS HQ.out.lt (blk_lt HR.out))
 clear hb0
 obtain⟨g,o,c,hal,hg,hkn,d0,d1,d2,d3,d4⟩:=tsAt_tok h4 hd
 have hgw:=Nat.lt_trans hg (blk_lt h3)
 have hb0:Below w.heap.size w u1:=by rw[hu1];exact bel_al _ _
 obtain⟨tk,tx,nv,tl,tc⟩:=t
 have htk:tk=1:=ht
 subst htk
 simp only at d0 d1 d2 d3 d4
 have HD:Hid (∀U,(∀j,j < w.heap.size→U.heap[j]? = w.heap[j]?)→(U.cell? ⟨g,o+k * 5,none⟩=some (Zi 1)∧U.cell? ⟨g,o+k * 5+1,none⟩=some (.string (S tx))∧U.cell? ⟨g,o+k * 5+2,none⟩=some (Zi nv)∧U.cell? ⟨g,o+k * 5+3,none⟩=some (Zi (tl:Int))∧U.cell? ⟨g,o+k * 5+4,none⟩=some (Zi (tc:Int)))∧DBx U pb al k en (0,0) 0 nest∧TsAt U pb al L):=Zh fun U hU=>by
  refine⟨?_,(hU pb (blk_lt h3)).trans h3,h4.same (fun j hj=>hU j (Nat.lt_trans hj (blk_lt h3)))⟩
  simp only[World.cell?] at d0 d1 d2 d3 d4 ⊢
  rw[hU g hgw]
  exact⟨d0,d1,d2,d3,d4⟩
 obtain⟨k1,hk1⟩:∃k1:Int,k1=((k+1:Nat):Int):=⟨_,rfl⟩
 have hw:IntKind.i64.wrap ((k:Int)+1)=k1:=by rw[IntKind.wrap_i64];omega
 have HK1:=Zh hk1
 have HW:Hid (nest≤200∧k < L.length∧pb < w.heap.size∧g < w.heap.size∧L.drop k=(1,tx,nv,tl,tc) :: rest):=Zh ⟨hn,hkn,blk_lt h3,hgw,hd⟩
 obtain⟨⟨d0,d1,d2,d3,d4⟩,hx,_⟩:=HD.out u1 (fun j hj=>hb0.block j hj)
 obtain⟨c0,c1,_,_,_,_,c6,_⟩:=hx.cells
 have c6:u1.cell? ⟨pb,6,none⟩=some (Zi 0):=c6
 rw[hal] at c0
 have hgd:decide (L.length≤k)=false:=by simp;omega
 have hgk:(k:Int) < (L.length:Int):=by omega
 have HAl:=Zh hal
 have HLw0:=Zh (fun j (hj:j < w.heap.size)=>hb0.block j hj)
 obtain⟨nn,hnn⟩:=nm (L.length)
 rw[← hnn] at c0 hgd hgk
 have HNn:=Zh hnn
 clear hk hkn hg hn hgw hx h3 h4 hd hb0 ht hnn hal hlen hk1
 clear hds
 go_enter Tryz.func33,Tryz.ntmps33
 go_upto_region 1 with fail
 rw[← hu1]
 clear hu1
 go_quiet (fail)
 have hb:Below u1.heap.size u1 (u1.drewN nq):=((Grew.refl u1).drewN nq).below
 have HLw:Hid (∀j,j < w.heap.size→(u1.drewN nq).heap[j]? = w.heap[j]?):=Zh fun j hj=>(hb.block j (by have:=HC.out;omega)).trans (HLw0.out j hj)
 clear HLw0
 replace HR:=Zh (HR.out.kept hb)
 replace HQ:=Zh (HQ.out.bel hb)
 replace HC:=Zh (cU HC.out hb.size)
 clear hb c0 c1 c6 d0 d1 d2 d3 d4 hgd
 generalize u1.drewN nq=u2 at *
 have HS9:Hid (∀U:World,(∀j,j < w.heap.size→U.heap[j]? = w.heap[j]?)→(fun (w9:World)=>w9.cell? ⟨pb,0,none⟩=some (.slice (some ⟨g,o,none⟩) nn c)∧w9.cell? ⟨pb,1,none⟩=some (Zi (k:Int))∧w9.cell? ⟨g,o+k * 5,none⟩=some (Zi 1)∧w9.cell? ⟨g,o+k * 5+1,none⟩=some (.string (S tx))∧w9.cell? ⟨g,o+k * 5+2,none⟩=some (Zi nv)∧w9.cell? ⟨g,o+k * 5+3,none⟩=some (Zi (tl:Int))∧w9.cell? ⟨g,o+k * 5+4,none⟩=some (Zi (tc:Int))) U):=Zh fun U hU=>by
  obtain⟨hd5,hx5,_⟩:=HD.out U hU
  have hx0:=hx5.cells
  rw[HAl.out,← HNn.out] at hx0
  exact⟨hx0.1,hx0.2.1,hd5⟩
 have hlow:∀j,j < w.heap.size→u2.heap[j]? = w.heap[j]?:=fun j hj=>HLw.out j hj
 obtain⟨U3,hU3⟩:=nm ((u2.alloc (.cells #[Zi 0,Ze,Zi 0,Zi 0,Zi 0] 83)).drew)
 obtain⟨U4,hU4⟩:=nm ((u2.alloc (.cells #[Zi 1,.string (S tx),Zi nv,Zi (tl:Int),Zi (tc:Int)] 83)).drew)
 obtain⟨BT,hBT⟩:=nm (u2.heap.size)
 have hs2:w.heap.size < u2.heap.size:=by have:=HC.out;omega
 have hb2:Below u2.heap.size u2 u2.drew:=((Grew.refl u2).drew).below
 have hb3:Below u2.heap.size u2 U3:=by
  have h1:=bel_al u2 (.cells #[Zi 0,Ze,Zi 0,Zi 0,Zi 0] 83)
  rw[hU3];exact h1.trans (((Grew.refl _).drew).below.mono h1.size)
 have hb4:Below u2.heap.size u2 U4:=by
  have h1:=bel_al u2 (.cells #[Zi 1,.string (S tx),Zi nv,Zi (tl:Int),Zi (tc:Int)] 83)
  rw[hU4];exact h1.trans (((Grew.refl _).drew).below.mono h1.size)
 have hlow2:∀j,j < w.heap.size→u2.drew.heap[j]? = w.heap[j]?:=fun j hj=>(hb2.block j (by omega)).trans (hlow j hj)
 have hlow3:∀j,j < w.heap.size→U3.heap[j]? = w.heap[j]?:=fun j hj=>(hb3.block j (by omega)).trans (hlow j hj)
 have hlow4:∀j,j < w.heap.size→U4.heap[j]? = w.heap[j]?:=fun j hj=>(hb4.block j (by omega)).trans (hlow j hj)
 have HS2:=Zh (HS9.out u2.drew hlow2)
 have HS3:=Zh (HS9.out U3 hlow3)
 have HS4:=Zh (HS9.out U4 hlow4)
 have HT4:Hid (Row5 U4 BT (Zi 1) (.string (S tx)) (Zi nv) (Zi (tl:Int)) (Zi (tc:Int))):=Zh (by rw[hU4,hBT];exact heap_alloc_new _ _ rfl)
 have HB4:=Zh hb4
 have HLw2:Hid (w.heap.size < u2.heap.size):=Zh hs2
 have HBt:Hid (pb < BT):=Zh (by have:=HC.out;omega)
 clear hlow hlow2 hlow3 hlow4 hb2 hb3 hb4 hs2
 go_wp2_with fail
 refine wp_region_held_drew (S:=fun (w9:World)=>w9.cell? ⟨pb,0,none⟩=some (.slice (some ⟨g,o,none⟩) nn c)∧w9.cell? ⟨pb,1,none⟩=some (Zi (k:Int))∧w9.cell? ⟨g,o+k * 5,none⟩=some (Zi 1)∧w9.cell? ⟨g,o+k * 5+1,none⟩=some (.string (S tx))∧w9.cell? ⟨g,o+k * 5+2,none⟩=some (Zi nv)∧w9.cell? ⟨g,o+k * 5+3,none⟩=some (Zi (tl:Int))∧w9.cell? ⟨g,o+k * 5+4,none⟩=some (Zi (tc:Int))) (by kernel_rfl) ?_ (fun hHeld=>?_)
 ·exact HS2.out
 refine wpAnyH_take (i:=0) (v:=Zp pb) rfl (by kernel_rfl) (by kernel_rfl) (by kernel_rfl) (fun _ _ _ h=>h) (Or.inl ⟨by rfl,by intro w hSw;(try dsimp only at hSw);go_simp⟩) (by assumption) ?_
 refine wpAnyH_take (i:=1) (v:=Zp pb) rfl (by kernel_rfl) (by kernel_rfl) (by kernel_rfl) (fun _ _ _ h=>h) (Or.inl ⟨by rfl,by intro w hSw;(try dsimp only at hSw);go_simp⟩) (by assumption) ?_
 refine wpAnyH_take (i:=2) (v:=Zp pb) rfl (by kernel_rfl) (by kernel_rfl) (by kernel_rfl) (fun _ _ _ h=>h) (Or.inl ⟨by rfl,by intro w hSw;(try dsimp only at hSw);go_simp⟩) (by assumption) ?_
 refine wpAnyH_take (i:=3) (v:=.slice (some ⟨g,o,none⟩) nn c) rfl (by kernel_rfl) (by kernel_rfl) (by kernel_rfl) (fun _ _ _ h=>h) (Or.inl ⟨by rfl,by intro w hSw;(try dsimp only at hSw);go_simp⟩) (by assumption) ?_
 refine wpAnyH_take (i:=4) (v:=Zp pb) rfl (by kernel_rfl) (by kernel_rfl) (by kernel_rfl) (fun _ _ _ h=>h) (Or.inl ⟨by rfl,by intro w hSw;(try dsimp only at hSw);go_simp⟩) (by assumption) ?_
 refine wpAnyH_take (i:=5) (v:=Zp pb) rfl (by kernel_rfl) (by kernel_rfl) (by kernel_rfl) (fun _ _ _ h=>h) (Or.inl ⟨by rfl,by intro w hSw;(try dsimp only at hSw);go_simp⟩) (by assumption) ?_
 refine wpAnyH_take (i:=6) (v:=.pointer (some ⟨pb,1,none⟩)) rfl (by kernel_rfl) (by kernel_rfl) (by kernel_rfl) (fun _ _ _ h=>h) (Or.inl ⟨by rfl,by intro w hSw;(try dsimp only at hSw);go_simp⟩) (by assumption) ?_
 refine wpAnyH_take (i:=7) (v:=Zi (k:Int)) rfl (by kernel_rfl) (by kernel_rfl) (by kernel_rfl) (fun _ _ _ h=>h) (Or.inl ⟨by rfl,by intro w hSw;(try dsimp only at hSw);go_simp⟩) (by assumption) ?_
 refine wpAnyH_take (i:=8) (v:=.pointer (some ⟨g,o+k * 5,none⟩)) rfl (by kernel_rfl) (by kernel_rfl) (by kernel_rfl) (fun _ _ _ h=>h) (Or.inl ⟨by rfl,by intro w hSw;(try dsimp only at hSw);go_simp⟩) (by assumption) ?_
 refine wpAnyH_take (i:=9) (v:=.agg #[Zi 1,.string (S tx),Zi nv,Zi (tl:Int),Zi (tc:Int)]) rfl (by kernel_rfl) (by kernel_rfl) (by kernel_rfl) (fun _ _ _ h=>h) (Or.inl ⟨by rfl,by intro w hSw;(try dsimp only at hSw);go_simp⟩) (by assumption) ?_
 refine wpAnyH_ready (rs:=[10]) (by kernel_rfl) (by simp) ?_
 refine AllReadyH.cons rfl (fun K hK=>?_) AllReadyH.nil
 go_simp
 refine hK.out _ _ (by rw[← hU3];exact HS3.out) (fun hHeld=>?_)
 clear hK K
 refine wpAnyH_ready (rs:=[11]) (by kernel_rfl) (by simp) ?_
 refine AllReadyH.cons rfl (fun K hK=>?_) AllReadyH.nil
 go_simp
 refine hK.out _ _ (by rw[← hU4];exact HS4.out) (fun hHeld=>?_)
 clear hK K
 refine wpAnyH_done (by kernel_rfl) ?_ _
 clear HS2 HS3 HS4 HS9 hU3 U3
 rw[← hU4,← hBT]
 clear hU4 hBT
 replace HR:=Zh (HR.out.kept HB4.out)
 replace HQ:=Zh (HQ.out.bel HB4.out)
 replace HC:=Zh (cU HC.out HB4.out.size)
 have hx4:=(HD.out U4 (fun j hj=>(HB4.out.block j (by have:=HLw2.out;omega)).trans (HLw.out j hj))).2
 obtain⟨_,c1,_⟩:=hx4.1.cells
 obtain⟨f1,_⟩:=hx4.1.frz
 obtain⟨U5,hU5⟩:=nm (U4.setCell ⟨pb,1,none⟩ (Zi k1))
 have ht:T1 pb U4 U5:=by rw[hU5];exact T1.set
 have hds:DS U5 pb al L en nest (PR.ok (tx,(tl,tc)) rest:PR NmP):=by
  have h:=DS.next (tx,((tl,tc):Nat × Nat)) HW.out.1 HW.out.2.1 hx4.1 hx4.2
  rw[HW.out.2.2.2.2,← HK1.out,← hU5] at h
  exact h
 replace HR:=Zh (HR.out.t1 ht (by have:=HC.out;omega))
 replace HQ:=Zh (HQ.out.call ht hds)
 replace HC:=Zh (cU HC.out ht.size)
 have ht5:=ht.row5 HT4.out (by have:=HBt.out;omega)
 obtain⟨⟨t0,t1,t2,t3,t4⟩,_⟩:=ht5.cells
 clear HT4 ht5 ht hds hx4
 go_upto_region 6 with fail
 rw[← hU5]
 clear hU5 c1 f1
 have HF:=Zh (dres3 (a0:=.string (S tx)) (a1:=Zi (tl:Int)) (a2:=Zi (tc:Int)) (P:=fun _=>False) (P':=New noB w.heap.size) HQ.out (Nat.le_refl _) HR.out ⟨_,_,_,rfl⟩ okN_f (fun x r e=>by cases e;rfl) (fun k hk=>hk.elim))
 obtain⟨_,f0,f1,f2⟩:=HR.out.cells
 clear HQ HR HC HB4 HK1 HD HW HLw HLw2 HBt HAl HNn
 go_wp2_with fail
 obtain⟨⟨d0,d1,d2⟩,_⟩:=HF.out.1.cells
 exact bodyPost_ret (v:=.agg #[.string (S tx),Zi (tl:Int),Zi (tc:Int)]) (by simp[results,Tryz.results33,go_sem,d0,d1,d2]) rfl HF.out.2
end Go.Proofs.YtlfooogmoigpfaaGreatDoor
