import Derived.Test.YtlfooogmoigpfaaGreatDoorQac
import Derived.Deep.QuietTactic
import Derived.BigQuiet
import Derived.Test.YtlfooogmoigpfaaGreatDoorQaa
set_option maxRecDepth 100000
set_option maxHeartbeats 8000000
namespace Go.Proofs.YtlfooogmoigpfaaGreatDoor
def FineS {α:Type} (n:Nat) (R:PR α):Prop:=match R with
 | .ok _ r=>r.length < n
 | .er _ e=>e≠0
theorem FineS.ne {α:Type} {n:Nat} {R:PR α} (h:FineS n R):R≠.er (0,0) 0:=by
 rintro rfl
 exact h rfl
theorem FineS.fine {α:Type} {n:Nat} {R:PR α} (h:FineS n R):Fine n R:=by
 cases R with
 | ok x r=>exact Nat.le_of_lt h
 | er p e=>exact h
theorem FineS.bind {α β:Type} {n m:Nat} {a:PR α} {f:α→List Tok→PR β} (h:FineS n a) (hf:∀x r,r.length < n→FineS m (f x r)):FineS m (a.bind f):=by
 cases a with
 | ok x r=>exact hf x r h
 | er p e=>exact h
theorem FineS.bindF {α β:Type} {n m:Nat} {a:PR α} {f:α→List Tok→PR β} (h:FineS n a) (hf:∀x r,r.length < n→Fine m (f x r)):Fine m (a.bind f):=by
 cases a with
 | ok x r=>exact hf x r h
 | er p e=>exact h
theorem Fine.bindS {α β:Type} {n m:Nat} {a:PR α} {f:α→List Tok→PR β} (h:Fine n a) (hf:∀x r,r.length≤n→FineS m (f x r)):FineS m (a.bind f):=by
 cases a with
 | ok x r=>exact hf x r h
 | er p e=>exact h
theorem FineS.mono {α:Type} {n m:Nat} {R:PR α} (h:FineS n R) (hn:n≤m):FineS m R:=by
 cases R with
 | ok x r=>exact Nat.lt_of_lt_of_le h hn
 | er p e=>exact h
theorem must_fineS {en:Nat × Nat} {s:List UInt8} {ts:List Tok} {n:Nat} (hs:s≠[]) (hn:ts.length≤n):FineS n (pMust en s ts):=by
 unfold pMust
 split
 ·rename_i h
  have:=tail_lt h hs
  show ts.tail.length < n
  omega
 ·exact (by decide:(181:Nat)≠0)
theorem name_fineS {en:Nat × Nat} {ts:List Tok} {n:Nat} (hn:ts.length≤n):FineS n (pName en ts):=by
 unfold pName
 split
 ·rename_i h
  have:=tail_ltK h (by decide)
  show ts.tail.length < n
  omega
 ·exact (by decide:(181:Nat)≠0)
theorem open_fineS {α:Type} {en:Nat × Nat} {nest:Nat} {ts:List Tok} {n:Nat} {inner:Nat→List Tok→PR α} (h:FineS n (inner (nest+1) ts.tail)):FineS n (pOpen en nest ts inner):=by
 unfold pOpen
 split
 ·exact (by decide:(182:Nat)≠0)
 ·exact h
theorem br_fineS {α:Type} {en:Nat × Nat} {nest:Nat} {s1 s2:List UInt8} {ts:List Tok} {n:Nat} {inner:Nat→List Tok→PR α} (h1:s1≠[]) (hn:ts.length≤n) (h:nxtT ts=s1→ts.tail.length < n→Fine (n - 1) (inner (nest+1) ts.tail)):FineS n (pBr en nest s1 s2 ts inner):=by
 unfold pBr
 split
 ·rename_i he
  have hl:=tail_lt he h1
  refine Fine.bindS (open_fine (h he (by omega))) fun x r hr=>?_
  refine Fine.bindS (must_fine hr) fun _ r2 h2=>?_
  show r2.length < n
  omega
 ·exact (by decide:(181:Nat)≠0)
theorem pW_fine {en:Nat × Nat} {nest:Nat} {ts:List Tok} {n:Nat} (hn:ts.length≤n):Fine n (pW en nest ts):=((fuel_all en (20 * ts.length+20)).1 nest ts ts.length (Nat.le_refl _) (by omega)).mono hn
theorem pAs_fine {en:Nat × Nat} {nest k:Nat} {p:Nat × Nat} {ts:List Tok} {n:Nat} (hn:ts.length≤n):FineS n (pAs en nest k p ts):=by
 unfold pAs
 refine (name_fineS hn).bind fun nm r hr=>(must_fineS (by decide) (Nat.le_of_lt hr)).bind fun _ r2 h2=>(pW_fine (Nat.le_refl r2.length)).bindS fun x r3 h3=>?_
 exact (by omega:r3.length < n)
theorem pSi_fine {en:Nat × Nat} {nest:Nat} {ts:List Tok} {n:Nat} (hn:ts.length≤n):FineS n (pSi en nest ts):=by
 have ht:ts.tail.length≤n:=by rw[List.length_tail];omega
 unfold pSi
 split
 ·exact pAs_fine ht
 split
 ·split
  ·refine (br_fineS (by decide) ht fun _ hl=>pW_fine (by omega)).bind fun x r hr=>(must_fineS (by decide) (Nat.le_of_lt hr)).bind fun _ r2 h2=>(pW_fine (Nat.le_refl r2.length)).bindS fun y r3 h3=>?_
   exact (by omega:r3.length < n)
  ·exact pAs_fine ht
 split
 ·exact (name_fineS ht).bind fun nm r hr=>hr
 split
 ·rename_i he
  have:=tail_lt he (by decide)
  exact (pW_fine (Nat.le_refl ts.tail.length)).bindS fun x r hr=>(by omega:r.length < n)
 split
 ·rename_i he
  have:=tail_lt he (by decide)
  exact (pW_fine (Nat.le_refl ts.tail.length)).bindS fun x r hr=>(by omega:r.length < n)
 split
 ·rename_i he
  have:=tail_lt he (by decide)
  exact (by omega:ts.tail.length < n)
 ·exact pAs_fine hn
theorem fuel_st (en:Nat × Nat):∀f,(∀nest acc ts n,ts.length≤n→3 * n+2≤f→Fine n (pSs en f nest acc ts))∧(∀nest ts n,ts.length≤n→3 * n+1≤f→FineS n (pSt en f nest ts))∧(∀nest p ts n,ts.length≤n→3 * n+3≤f→FineS n (pCo en f nest p ts)):=by
 intro f
 induction f with
 | zero=>exact⟨fun _ _ _ _ _ h=>by omega,fun _ _ _ _ h=>by omega,fun _ _ _ _ _ h=>by omega⟩
 | succ f ih=>
  obtain⟨iS,iT,iC⟩:=ih
  have hB:∀us n,us.length≤n→3 * n+2≤f+3→2≤f→∀nest,FineS n (pBr en nest [123] [125] us fun ns r1=>pSs en f ns [] r1):=fun us n hu hf h2 nest=>br_fineS (by decide) hu fun _ hl=>iS _ _ _ (n - 1) (by omega) (by omega)
  refine⟨?_,?_,?_⟩
  ·intro nest acc ts n hn hf
   simp only[pSs]
   split
   ·exact hn
   ·exact (iT nest ts n hn (by omega)).bindF fun s r hr=>(iS nest _ r (n - 1) (by omega) (by omega)).mono (by omega)
  ·intro nest ts n hn hf
   simp only[pSt]
   split
   ·rename_i he
    have:=tail_lt he (by decide)
    exact (iC nest _ ts.tail (n - 1) (by omega) (by omega)).mono (by omega)
   ·split
    ·rename_i he
     have:=tail_lt he (by decide)
     exact (pW_fine (Nat.le_refl ts.tail.length)).bindS fun x r hr=>(hB r n (by omega) (by omega) (by omega) nest).bind fun b r2 h2=>h2
    ·exact (pSi_fine hn).bind fun s r hr=>(must_fineS (by decide) (Nat.le_of_lt hr)).bind fun _ r2 h2=>h2
  ·intro nest p ts n hn hf
   simp only[pCo]
   refine (pW_fine hn).bindS fun x r hr=>(hB r n hr (by omega) (by omega) nest).bind fun b r2 h2=>?_
   have ht:r2.tail.length≤n:=by rw[List.length_tail];omega
   split
   ·rename_i he
    have hl:=tail_lt he (by decide)
    split
    ·rename_i he2
     have hl2:=tail_lt he2 (by decide)
     exact (open_fineS (iC _ _ r2.tail.tail (n - 1) (by omega) (by omega))).bind fun s r4 h4=>(by omega:r4.length < n)
    ·exact (hB r2.tail n ht (by omega) (by omega) nest).bind fun e r4 h4=>h4
   ·exact h2
theorem pBlk_fine {en:Nat × Nat} {nest:Nat} {ts:List Tok} {n:Nat} (hn:ts.length≤n):FineS n (pBlk en nest ts):=
 br_fineS (by decide) hn fun he hl=>by
  have:=tail_lt he (by decide)
  exact ((fuel_st en (20 * ts.length+20)).1 _ _ ts.tail ts.tail.length (Nat.le_refl _) (by omega)).mono (by omega)
theorem pNs_fine (en:Nat × Nat):∀f acc ts n,ts.length≤n→n+1≤f→Fine n (pNs en f acc ts):=by
 intro f
 induction f with
 | zero=>exact fun _ _ _ _ h=>by omega
 | succ f ih=>
  intro acc ts n hn hf
  simp only[pNs]
  split
  ·rename_i he
   have:=tail_lt he (by decide)
   exact (name_fineS (Nat.le_refl ts.tail.length)).bindF fun nm r hr=>(ih _ r (n - 1) (by omega) (by omega)).mono (by omega)
  ·exact hn
theorem pNames_fine {en:Nat × Nat} {ts:List Tok} {n:Nat} (hn:ts.length≤n):FineS n (pNames en ts):=
 (name_fineS (Nat.le_refl ts.length)).bind fun nm r hr=>by
  have h:=pNs_fine en (ts.length+1) [nm] r r.length (Nat.le_refl _) (by omega)
  cases hc:pNs en (ts.length+1) [nm] r with
  | ok x r2=>
   rw[hc] at h
   have h2:r2.length≤r.length:=h
   exact (by omega:r2.length < n)
  | er p e=>rw[hc] at h;exact h
theorem pOpt_fine {en:Nat × Nat} {w:List UInt8} {ts:List Tok} {n:Nat} (hn:ts.length≤n):Fine n (pOpt en w ts):=by
 unfold pOpt
 split
 ·exact (pNames_fine (by rw[List.length_tail];omega)).fine
 ·exact hn
theorem pProc_fine {en:Nat × Nat} {ts:List Tok} {n:Nat} (hn:ts.length≤n):FineS n (pProc en ts):=by
 unfold pProc
 refine (name_fineS hn).bind fun nm r hr=>FineS.bind (n:=n) (br_fineS (by decide) (Nat.le_of_lt hr) fun _ hl=>?_) fun ags r2 h2=>(pOpt_fine (Nat.le_refl r2.length)).bindS fun rs r3 h3=>(pOpt_fine (Nat.le_refl r3.length)).bindS fun ws r4 h4=>(pBlk_fine (Nat.le_refl r4.length)).bind fun b r5 h5=>?_
 ·split
  ·exact (by omega:r.tail.length≤n - 1)
  ·exact (pNames_fine (by omega)).fine
 ·exact (by omega:r5.length < n)
theorem pConst_fine {en:Nat × Nat} {ts:List Tok} {n:Nat} (hn:ts.length≤n):FineS n (pConst en ts):=by
 unfold pConst
 refine (name_fineS hn).bind fun nm r hr=>(must_fineS (by decide) (Nat.le_of_lt hr)).bind fun _ r2 h2=>(pW_fine (Nat.le_refl r2.length)).bindS fun x r3 h3=>(must_fineS (n:=n) (by decide) (by omega)).bind fun _ r4 h4=>h4
theorem pSrc_fine (en:Nat × Nat):∀f acc ts n,ts.length≤n→n+1≤f→Fine n (pSrc en f acc ts):=by
 intro f
 induction f with
 | zero=>exact fun _ _ _ _ h=>by omega
 | succ f ih=>
  intro acc ts n hn hf
  simp only[pSrc]
  split
  ·exact Nat.zero_le n
  ·split
   ·rename_i he
    have:=tail_lt he (by decide)
    exact (pConst_fine (Nat.le_refl ts.tail.length)).bindF fun c r hr=>(ih _ r (n - 1) (by omega) (by omega)).mono (by omega)
   ·exact (must_fineS (by decide) (Nat.le_refl ts.length)).bindF fun _ r hr=>(pProc_fine (Nat.le_refl r.length)).bindF fun p r2 h2=>(ih _ r2 (n - 1) (by omega) (by omega)).mono (by omega)
def kwL:List (List UInt8):=[[63],[58],[45],[33],[40],[41],[91],[93],[44],[123],[125],[59],[61],wGet,wHas,wMin,wMax,wLet,wPut,wDel,wOut,wAbort,wStop,wIf,wElse,wRepeat,wConst,wProc,wReads,wWrites] ++ jointL.map (·.1)
def TkOk (t:Tok):Prop:=(t.1=1∨t.1=2∨t.1=3∨t.1=4)∧((t.1=1∨t.1=3)→∀s∈kwL,t.2.1≠s)
def TksOk (ts:List Tok):Prop:=∀t∈ts,TkOk t
theorem TksOk.tail {ts:List Tok} (h:TksOk ts):TksOk ts.tail:=fun t ht=>h t (List.mem_of_mem_tail ht)
def pkT (ts:List Tok):List UInt8:=if nxtK ts=2∨nxtK ts=4 then nxtT ts else []
theorem pk_iff {ts:List Tok} (h:TksOk ts) {s:List UInt8} (hs:s∈kwL) (hn:s≠[]):pkT ts=s↔nxtT ts=s:=by
 unfold pkT
 split
 ·exact Iff.rfl
 ·rename_i hk
  cases ts with
  | nil=>exact Iff.rfl
  | cons t r=>
   obtain⟨h1,h2⟩:=h t (List.mem_cons_self ..)
   have hk':¬(t.1=2∨t.1=4):=hk
   refine⟨fun e=>absurd e.symm hn,fun e=>absurd e (h2 (by omega) s hs)⟩
theorem pk_of {ts:List Tok} (h:TksOk ts) {s:List UInt8} (hs:s∈kwL) (hn:s≠[]) (he:nxtT ts=s):pkT ts=s:=(pk_iff h hs hn).2 he
theorem pk_ne {ts:List Tok} (h:TksOk ts) {s:List UInt8} (hs:s∈kwL) (hn:s≠[]) (he:nxtT ts≠s):pkT ts≠s:=fun e=>he ((pk_iff h hs hn).1 e)
theorem kw_own:∀s∈kwL,isOwn s=true∨(leC (c0 s)=false∧diC (c0 s)=false):=by decide
theorem kw_di:∀s∈kwL,diC (c0 s)=false:=by decide
theorem c0_take {l:List UInt8} {n:Nat} (hn:0 < n):c0 (l.take n)=c0 l:=by
 cases l with
 | nil=>simp
 | cons c r=>
  obtain⟨m,rfl⟩:∃m,n=m+1:=⟨n - 1,by omega⟩
  rfl
theorem frB_c0 {f:Nat→Bool} {l:List UInt8} (h:f (c0 l)=true) (h0:f 0=false):0 < frB f l:=by
 cases l with
 | nil=>rw[show c0 []=0 from rfl,h0] at h;cases h
 | cons c r=>exact frB_pos h
theorem tokA_ok {l:List UInt8} {k:Nat} {t:List UInt8} {n:Int} {p:Nat × Nat} (h:tokA l=.ok k t n):TkOk (k,t,n,p):=by
 unfold tokA at h
 by_cases h1:leC (c0 l)=true
 ·rw[if_pos h1] at h
  simp only[TK.ok.injEq] at h
  obtain⟨hk,ht,_⟩:=h
  have hp:0 < frB woC l:=frB_c0 (woC_of_le h1) (by decide)
  have hc:leC (c0 t)=true:=by rw[← ht,c0_take hp];exact h1
  rw[ht] at hk
  cases ho:isOwn t with
  | true=>
   rw[ho] at hk
   have hk2:k=2:=hk.symm
   subst hk2
   exact⟨.inr (.inl rfl),fun h=>by rcases h with h | h <;> cases h⟩
  | false=>
   rw[ho] at hk
   have hk2:k=1:=hk.symm
   subst hk2
   refine⟨.inl rfl,fun _ s hs e=>?_⟩
   have e2:t=s:=e
   subst e2
   rcases kw_own t hs with h | h
   ·rw[ho] at h;cases h
   ·rw[hc] at h;cases h.1
 ·rw[if_neg h1] at h
  by_cases h2:diC (c0 l)=true
  ·rw[if_pos h2] at h
   have hp:0 < frB woC l:=frB_c0 (woC_of_di h2) (by decide)
   split at h
   ·simp only[TK.ok.injEq] at h
    obtain⟨hk,ht,_⟩:=h
    have hc:diC (c0 t)=true:=by rw[← ht,c0_take hp];exact h2
    subst hk
    refine⟨.inr (.inr (.inl rfl)),fun _ s hs e=>?_⟩
    have e2:t=s:=e
    subst e2
    rw[kw_di t hs] at hc
    cases hc
   ·cases h
  ·rw[if_neg h2] at h
   split at h
   ·cases h
   ·split at h
    ·cases h
    ·simp only[TK.ok.injEq] at h
     obtain⟨hk,_⟩:=h
     subst hk
     exact⟨.inr (.inr (.inr rfl)),fun h=>by rcases h with h | h <;> cases h⟩
theorem tkR_ok (L:List UInt8):∀(f k:Nat) (acc ts:List Tok),tkR L f k acc=.ok ts→TksOk acc→TksOk ts
 | 0,k,acc,ts,h,ha=>by
  simp only[tkR,TR.ok.injEq] at h
  subst h
  exact ha
 | f+1,k,acc,ts,h,ha=>by
  unfold tkR at h
  split at h
  ·simp only[TR.ok.injEq] at h
   subst h
   exact ha
  ·split at h
   ·cases h
   ·rename_i kd t n he
    refine tkR_ok L f _ _ ts h fun u hu=>?_
    rw[List.mem_append,List.mem_singleton] at hu
    rcases hu with hu | hu
    ·exact ha u hu
    ·rw[hu];exact tokA_ok he
theorem tksA_ok {L:List UInt8} {ts:List Tok} (h:tksA L=.ok ts):TksOk ts:=tkR_ok L _ 0 [] ts h (fun t ht=>by cases ht)
end Go.Proofs.YtlfooogmoigpfaaGreatDoor
namespace Go.Proofs.YtlfooogmoigpfaaGreatDoor
open Go.RowKit Go.Sort Go.Shelf
abbrev DBx (W:World) (pb:Nat) (al:Value) (k:Nat) (en:Nat × Nat) (p:Nat × Nat) (x nest:Nat):Prop:=
 W.heap[pb]? = some (.cells #[al,Zi (k:Int),Zi (en.1:Int),Zi (en.2:Int),Zi (p.1:Int),Zi (p.2:Int),Zi (x:Int),Zi (nest:Int)] 46 (0,0))
def DS {α:Type} (W:World) (pb:Nat) (al:Value) (L:List Tok) (en:Nat × Nat) (nest:Nat):PR α→Prop
 | .ok _ ts=>nest≤200∧∃k,k≤L.length∧ts=L.drop k∧DBx W pb al k en (0,0) 0 nest∧TsAt W pb al L
 | .er p x=>x≠0∧∃k,k≤L.length∧DBx W pb al k en p x nest∧TsAt W pb al L
def pkS {α:Type} : PR α→List UInt8
 | .ok _ ts=>pkT ts
 | .er _ _=>[]
section
variable {W W':World} {pb k x nest:Nat} {al:Value} {L:List Tok} {en p:Nat × Nat}
theorem DBx.cells (h:DBx W pb al k en p x nest):(W.cell? ⟨pb,0,none⟩=some al∧W.cell? ⟨pb,1,none⟩=some (Zi (k:Int))∧W.cell? ⟨pb,2,none⟩=some (Zi (en.1:Int))∧W.cell? ⟨pb,3,none⟩=some (Zi (en.2:Int))∧W.cell? ⟨pb,4,none⟩=some (Zi (p.1:Int))∧W.cell? ⟨pb,5,none⟩=some (Zi (p.2:Int))∧W.cell? ⟨pb,6,none⟩=some (Zi (x:Int))∧W.cell? ⟨pb,7,none⟩=some (Zi (nest:Int))):=
 ⟨by simp[World.cell?,h],by simp[World.cell?,h],by simp[World.cell?,h],by simp[World.cell?,h],by simp[World.cell?,h],by simp[World.cell?,h],by simp[World.cell?,h],by simp[World.cell?,h]⟩
theorem DBx.frz (h:DBx W pb al k en p x nest):W.frozen? ⟨pb,1,none⟩=false∧W.frozen? ⟨pb,4,none⟩=false∧W.frozen? ⟨pb,5,none⟩=false∧W.frozen? ⟨pb,6,none⟩=false∧W.frozen? ⟨pb,7,none⟩=false:=
 ⟨frozen_of_row W pb 1 _ _ h,frozen_of_row W pb 4 _ _ h,frozen_of_row W pb 5 _ _ h,frozen_of_row W pb 6 _ _ h,frozen_of_row W pb 7 _ _ h⟩
theorem DBx.kept (h:DBx W pb al k en p x nest) (hb:Below W.heap.size W W'):DBx W' pb al k en p x nest:=(hb.block _ (blk_lt h)).trans h
theorem DBx.setAt (h:DBx W pb al k en p x nest) (n:Nat):DBx (W.setCell ⟨pb,1,none⟩ (Zi (n:Int))) pb al n en p x nest:=heap_setCell_same W pb 1 _ _ _ h
theorem DBx.setNest (h:DBx W pb al k en p x nest) (n:Nat):DBx (W.setCell ⟨pb,7,none⟩ (Zi (n:Int))) pb al k en p x n:=heap_setCell_same W pb 7 _ _ _ h
theorem DBx.setF (h:DBx W pb al k en p x nest) (a b e:Nat):DBx (((W.setCell ⟨pb,4,none⟩ (Zi (a:Int))).setCell ⟨pb,5,none⟩ (Zi (b:Int))).setCell ⟨pb,6,none⟩ (Zi (e:Int))) pb al k en (a,b) e nest:=
 heap_setCell_same _ pb 6 _ _ _ (heap_setCell_same _ pb 5 _ _ _ (heap_setCell_same W pb 4 _ _ _ h))
theorem DS.kept {α:Type} {s:PR α} (h:DS W pb al L en nest s) (hb:Below W.heap.size W W'):DS W' pb al L en nest s:=by
 cases s with
 | ok y ts=>
  obtain⟨h0,k,h1,h2,h3,h4⟩:=h
  exact⟨h0,k,h1,h2,h3.kept hb,h4.same (fun j hj=>hb.block j (Nat.lt_trans hj (blk_lt h3)))⟩
 | er p x=>
  obtain⟨h0,k,h1,h3,h4⟩:=h
  exact⟨h0,k,h1,h3.kept hb,h4.same (fun j hj=>hb.block j (Nat.lt_trans hj (blk_lt h3)))⟩
theorem tsC_at {g o:Nat} (h:TsC W g o L) (k:Nat):TsC W g (o+k * 5) (L.drop k):=by
 induction k with
 | zero=>simpa using h
 | succ n ih=>
  cases hd:L.drop n with
  | nil=>
   rw[show L.drop (n+1)=(L.drop n).drop 1 by rw[List.drop_drop],hd]
   intro j u hu
   simp[tkc] at hu
  | cons t r=>
   rw[hd] at ih
   rw[show L.drop (n+1)=(L.drop n).drop 1 by rw[List.drop_drop],hd]
   have:=ih.tail
   rw[show o+(n+1) * 5=o+n * 5+5 by omega]
   exact this
end
theorem peek_er (W:World) (pb:Nat) (al:Value) (k:Nat) (en p:Nat × Nat) (x nest:Nat) (h:DBx W pb al k en p x nest) (hx:x≠0):Calls Tryz.prog 56 #[Zp pb] W fun e w'=>e=.returned (Ze)∧Below W.heap.size W w':=by
 obtain⟨c0,c1,c2,c3,c4,c5,c6,c7⟩:=h.cells
 obtain⟨xi,hxi⟩:∃xi:Int,xi=(x:Int):=⟨_,rfl⟩
 rw[← hxi] at c6
 have hd:(xi != 0)=true:=by simp;omega
 have HB:Hid (∀q,Below W.heap.size W (W.drewN q)):=fun q=>((Grew.refl W).drewN q).below
 clear h hx hxi c2 c3 c4 c5 c7
 go_enter Tryz.func56,Tryz.ntmps56
 go_wp2
 go_quiet (fail)
 go_wp2
 go_ret
 exact⟨rfl,HB.out _⟩
theorem peek_end (W:World) (pb:Nat) (ao:Option Addr) (c n:Nat) (en:Nat × Nat) (nest:Nat) (h:DBx W pb (.slice ao n c) n en (0,0) 0 nest):Calls Tryz.prog 56 #[Zp pb] W fun e w'=>e=.returned (Ze)∧Below W.heap.size W w':=by
 obtain⟨c0,c1,c2,c3,c4,c5,c6,c7⟩:=h.cells
 have c6:W.cell? ⟨pb,6,none⟩=some (Zi 0):=c6
 have HB:Hid (∀q,Below W.heap.size W (W.drewN q)):=fun q=>((Grew.refl W).drewN q).below
 clear h c2 c3 c4 c5 c7
 go_enter Tryz.func56,Tryz.ntmps56
 go_wp2
 go_quiet (fail)
 go_wp2
 go_ret
 exact⟨rfl,HB.out _⟩
theorem peek_tok (W:World) (pb g o c n k:Nat) (t:Tok) (en:Nat × Nat) (nest:Nat) (h:DBx W pb (.slice (some ⟨g,o,none⟩) n c) k en (0,0) 0 nest) (hk:k < n) (d0:W.cell? ⟨g,o+k * 5,none⟩=some (Zi (t.1:Int))) (d1:W.cell? ⟨g,o+k * 5+1,none⟩=some (.string (S t.2.1))):Calls Tryz.prog 56 #[Zp pb] W fun e w'=>e=.returned (.string (S (if t.1=2∨t.1=4 then t.2.1 else [])))∧Below W.heap.size W w':=by
 obtain⟨c0,c1,c2,c3,c4,c5,c6,c7⟩:=h.cells
 have c6:W.cell? ⟨pb,6,none⟩=some (Zi 0):=c6
 have HB:Hid (∀q,Below W.heap.size W (W.drewN q)):=fun q=>((Grew.refl W).drewN q).below
 have HB2:Hid (∀q q2,Below W.heap.size W ((W.drewN q).drewN q2)):=fun q q2=>(((Grew.refl W).drewN q).drewN q2).below
 obtain⟨kd,tx,r⟩:=t
 simp only at d0 d1 ⊢
 have hg:decide (n≤k)=false:=by simp;omega
 have hkn:(k:Int) < (n:Int):=by omega
 clear h c2 c3 c4 c5 c7
 by_cases h2:kd=2
 ·subst h2
  have d0:W.cell? ⟨g,o+k * 5,none⟩=some (Zi 2):=d0
  rw[if_pos (.inl rfl)]
  generalize S tx=u at *
  go_enter Tryz.func56,Tryz.ntmps56
  go_wp2
  go_quiet (fail)
  go_wp2
  go_quiet (fail)
  go_wp2
  go_ret
  exact⟨rfl,HB2.out _ _⟩
 ·by_cases h4:kd=4
  ·subst h4
   have d0:W.cell? ⟨g,o+k * 5,none⟩=some (Zi 4):=d0
   rw[if_pos (.inr rfl)]
   generalize S tx=u at *
   go_enter Tryz.func56,Tryz.ntmps56
   go_wp2
   go_quiet (fail)
   go_wp2
   go_quiet (fail)
   go_wp2
   go_ret
   exact⟨rfl,HB2.out _ _⟩
  ·rw[if_neg (by omega)]
   obtain⟨ki,hki⟩:∃ki:Int,ki=(kd:Int):=⟨_,rfl⟩
   rw[← hki] at d0
   have hd2:(ki != 2)=true:=by simp;omega
   have hd4:(ki != 4)=true:=by simp;omega
   clear hki d1
   show Calls _ _ _ _ fun e w'=>e=.returned (Ze)∧Below W.heap.size W w'
   go_enter Tryz.func56,Tryz.ntmps56
   go_wp2
   go_quiet (fail)
   go_wp2
   go_ret
   exact⟨rfl,HB.out _⟩
theorem tsAt_tok {W:World} {rb:Nat} {al:Value} {L:List Tok} (h:TsAt W rb al L) {k:Nat} {t:Tok} {r:List Tok} (hd:L.drop k=t :: r):∃g o c,al=.slice (some ⟨g,o,none⟩) L.length c∧g < rb∧k < L.length∧W.cell? ⟨g,o+k * 5,none⟩=some (Zi (t.1:Int))∧W.cell? ⟨g,o+k * 5+1,none⟩=some (.string (S t.2.1))∧W.cell? ⟨g,o+k * 5+2,none⟩=some (Zi t.2.2.1)∧W.cell? ⟨g,o+k * 5+3,none⟩=some (Zi (t.2.2.2.1:Int))∧W.cell? ⟨g,o+k * 5+4,none⟩=some (Zi (t.2.2.2.2:Int)):=by
 obtain⟨ao,c,h1,h2,h3⟩:=h
 have hk:k < L.length:=by
  rcases Nat.lt_or_ge k L.length with h | h
  ·exact h
  ·rw[List.drop_eq_nil_of_le h] at hd;cases hd
 rcases h3 with h3 | ⟨g,o,rfl,hg,h3⟩
 ·rw[h3] at hk;cases hk
 ·have h4:=tsC_at h3 k
  rw[hd] at h4
  exact⟨g,o,c,h1,hg,hk,h4.head⟩
theorem peek_any {α:Type} (W:World) (pb:Nat) (al:Value) (L:List Tok) (en:Nat × Nat) (nest:Nat) (s:PR α) (h:DS W pb al L en nest s):Calls Tryz.prog 56 #[Zp pb] W fun e w'=>e=.returned (.string (S (pkS s)))∧Below W.heap.size W w':=by
 cases s with
 | er p x=>
  obtain⟨h0,k,h1,h3,h4⟩:=h
  exact peek_er W pb al k en p x nest h3 h0
 | ok y ts=>
  obtain⟨h0,k,h1,rfl,h3,h4⟩:=h
  cases hd:L.drop k with
  | nil=>
   have hk:k=L.length:=by
    have:=congrArg List.length hd
    simp at this
    omega
   subst hk
   obtain⟨ao,c,rfl,_⟩:=h4
   have he:S (pkS (PR.ok y []))=⟨#[]⟩:=rfl
   rw[he]
   exact peek_end W pb ao c L.length en nest h3
  | cons t r=>
   obtain⟨g,o,c,rfl,_,hk,d0,d1,_⟩:=tsAt_tok h4 hd
   exact peek_tok W pb g o c L.length k t en nest h3 hk d0 d1
theorem spot_k (W:World) (pb:Nat) (al:Value) (L:List Tok) (k:Nat) (en p:Nat × Nat) (x nest:Nat) (hk:k≤L.length) (h:DBx W pb al k en p x nest) (ht:TsAt W pb al L):Calls Tryz.prog 62 #[Zp pb] W fun e w'=>e=.returned (.agg #[Zi ((nxtP en (L.drop k)).1:Int),Zi ((nxtP en (L.drop k)).2:Int)])∧Below W.heap.size W w':=by
 obtain⟨W1,hW1⟩:=nm (W.alloc (.cells #[Zi 0,Zi 0] 43))
 have hb1:Below W.heap.size W W1:=by rw[hW1];exact bel_al _ _
 have hr1:W1.heap[W.heap.size]? = some (.cells #[Zi 0,Zi 0] 43 (0,0)):=by rw[hW1];exact heap_alloc_new _ _ rfl
 have HQ:Hid (∀q,Below W.heap.size W (W1.drewN q)∧(W1.drewN q).heap[W.heap.size]? = some (.cells #[Zi 0,Zi 0] 43 (0,0))∧Below W1.heap.size W1 (W1.drewN q)):=fun q=>
  have hq:=((Grew.refl W1).drewN q).below
  ⟨hb1.trans (hq.mono hb1.size),(hq.block _ (blk_lt hr1)).trans hr1,hq⟩
 have hx1:=h.kept hb1
 have HX:=Zh hx1
 have hs2:∀(U:World) (u v:Value),U.heap[W.heap.size]? = some (.cells #[Zi 0,Zi 0] 43 (0,0))→((U.setCell ⟨W.heap.size,0,none⟩ u).setCell ⟨W.heap.size,1,none⟩ v).heap[W.heap.size]? = some (.cells #[u,v] 43 (0,0)):=fun U u v hU=>heap_setCell_same _ _ 1 _ _ v (heap_setCell_same U _ 0 _ _ u hU)
 have HS:=Zh hs2
 have HB:Hid (∀(U:World) (u v:Value),Below W.heap.size W U→Below W.heap.size W ((U.setCell ⟨W.heap.size,0,none⟩ u).setCell ⟨W.heap.size,1,none⟩ v)):=fun U u v hU=>(hU.setCell (p:=⟨W.heap.size,0,none⟩) (Nat.le_refl _) u).setCell (p:=⟨W.heap.size,1,none⟩) (Nat.le_refl _) v
 clear hs2
 cases hd:L.drop k with
 | nil=>
  have hk2:k=L.length:=by
   have:=congrArg List.length hd
   simp at this
   omega
  subst hk2
  obtain⟨ao,c,rfl,_⟩:=ht
  obtain⟨c0,c1,c2,c3,c4,c5,c6,c7⟩:=hx1.cells
  generalize L.length=n at *
  obtain⟨el,ec⟩:=en
  simp only[nxtP] at c2 c3 ⊢
  clear h hd hk c2 c3 c4 c5 c6 c7 hx1 hr1 hb1
  go_enter Tryz.func62,Tryz.ntmps62
  go_upto_region 1 with fail
  rw[← hW1]
  clear hW1
  go_quiet (fail)
  obtain⟨hb2,hr2,hb12⟩:=HQ.out nq
  obtain⟨_,_,c2,c3,_⟩:=(HX.out.kept hb12).cells
  have HB2:=Zh hb2
  have HR2:=Zh hr2
  clear hb2 hb12 HQ HX c0 c1
  generalize W1.drewN nq=W2 at *
  have r0:W2.cell? ⟨W.heap.size,0,none⟩=some (Zi 0):=by simp[World.cell?,hr2]
  have r1:W2.cell? ⟨W.heap.size,1,none⟩=some (Zi 0):=by simp[World.cell?,hr2]
  have f0:=frozen_of_row W2 W.heap.size 0 _ _ hr2
  have f1:=frozen_of_row W2 W.heap.size 1 _ _ hr2
  clear hr2
  simp only at c2 c3
  go_wp2
  have hr:=HS.out W2 (Zi (el:Int)) (Zi (ec:Int)) HR2.out
  have k0:((W2.setCell ⟨W.heap.size,0,none⟩ (Zi (el:Int))).setCell ⟨W.heap.size,1,none⟩ (Zi (ec:Int))).cell? ⟨W.heap.size,0,none⟩=some (Zi (el:Int)):=by simp[World.cell?,hr]
  have k1:((W2.setCell ⟨W.heap.size,0,none⟩ (Zi (el:Int))).setCell ⟨W.heap.size,1,none⟩ (Zi (ec:Int))).cell? ⟨W.heap.size,1,none⟩=some (Zi (ec:Int)):=by simp[World.cell?,hr]
  exact bodyPost_ret (v:=.agg #[Zi (el:Int),Zi (ec:Int)]) (by simp[results,Tryz.results62,go_sem,k0,k1]) rfl ⟨rfl,HB.out _ _ _ HB2.out⟩
 | cons t r=>
  obtain⟨g,o,c,rfl,hg,hkn,d0,d1,d2,d3,d4⟩:=tsAt_tok ht hd
  have hgW:=Nat.lt_trans hg (blk_lt h)
  have HPW:Hid (pb < W.heap.size∧g < W.heap.size):=Zh ⟨blk_lt h,hgW⟩
  obtain⟨c0,c1,c2,c3,c4,c5,c6,c7⟩:=hx1.cells
  generalize L.length=n at *
  obtain⟨kd,tx,nv,tl,tc⟩:=t
  simp only[nxtP] at d3 d4 ⊢
  have hki:decide (k < n)=true:=by simp;omega
  have HD:Hid (∀U,Below W.heap.size W U→U.cell? ⟨g,o+k * 5+3,none⟩=some (Zi (tl:Int))∧U.cell? ⟨g,o+k * 5+4,none⟩=some (Zi (tc:Int))):=fun U hU=>by
   simp only[World.cell?] at d3 d4 ⊢
   rw[hU.block g hgW]
   exact⟨d3,d4⟩
  clear h hd hk c2 c3 c4 c5 c6 c7 hx1 hr1 hb1 d0 d1 d2 d3 d4 ht hg hgW
  go_enter Tryz.func62,Tryz.ntmps62
  go_upto_region 1 with fail
  rw[← hW1]
  clear hW1
  go_quiet (fail)
  obtain⟨hb2,hr2,hb12⟩:=HQ.out nq
  obtain⟨c0,c1,_⟩:=(HX.out.kept hb12).cells
  obtain⟨d3,d4⟩:=HD.out _ hb2
  have HB2:=Zh hb2
  have HR2:=Zh hr2
  clear hb2 hb12 HQ HX HD
  generalize W1.drewN nq=W2 at *
  have r0:W2.cell? ⟨W.heap.size,0,none⟩=some (Zi 0):=by simp[World.cell?,hr2]
  have r1:W2.cell? ⟨W.heap.size,1,none⟩=some (Zi 0):=by simp[World.cell?,hr2]
  have f0:=frozen_of_row W2 W.heap.size 0 _ _ hr2
  have f1:=frozen_of_row W2 W.heap.size 1 _ _ hr2
  clear hr2
  have hkn2:(k:Int) < (n:Int):=by omega
  clear hki
  have hpb:=HPW.out.1
  have hgb:=HPW.out.2
  have HS9:Hid ((fun w9=>w9.cell? ⟨pb,0,none⟩=some (.slice (some ⟨g,o,none⟩) n c)∧w9.cell? ⟨pb,1,none⟩=some (Zi (k:Int))∧w9.cell? ⟨g,o+k * 5+3,none⟩=some (Zi (tl:Int))∧w9.cell? ⟨g,o+k * 5+4,none⟩=some (Zi (tc:Int))) ((W2.drew.setCell ⟨W.heap.size,0,none⟩ (Zi (tl:Int))).setCell ⟨W.heap.size,1,none⟩ (Zi (tc:Int)))):=Zh (by
   have e1:∀q j,q≠W.heap.size→((W2.drew.setCell ⟨W.heap.size,0,none⟩ (Zi (tl:Int))).setCell ⟨W.heap.size,1,none⟩ (Zi (tc:Int))).cell? ⟨q,j,none⟩=W2.cell? ⟨q,j,none⟩:=fun q j hq=>by
    simp only[World.cell?]
    rw[heap_setCell_other _ ⟨W.heap.size,1,none⟩ q _ hq,heap_setCell_other _ ⟨W.heap.size,0,none⟩ q _ hq]
    rfl
   exact⟨(e1 pb 0 (by omega)).trans c0,(e1 pb 1 (by omega)).trans c1,(e1 g _ (by omega)).trans d3,(e1 g _ (by omega)).trans d4⟩)
  have r0:W2.drew.cell? ⟨W.heap.size,0,none⟩=some (Zi 0):=r0
  have r1:W2.drew.cell? ⟨W.heap.size,1,none⟩=some (Zi 0):=r1
  have f0:W2.drew.frozen? ⟨W.heap.size,0,none⟩=false:=f0
  have f1:W2.drew.frozen? ⟨W.heap.size,1,none⟩=false:=f1
  have HR3:Hid (W2.drew.heap[W.heap.size]? = some (.cells #[Zi 0,Zi 0] 43 (0,0))):=HR2
  have HB3:Hid (Below W.heap.size W W2.drew):=Zh (HB2.out.trans (((Grew.refl W2).drew).below.mono HB2.out.size))
  clear HB2 HR2
  go_wp2_with fail
  refine wp_region_held_drew (S:=fun w9=>w9.cell? ⟨pb,0,none⟩=some (.slice (some ⟨g,o,none⟩) n c)∧w9.cell? ⟨pb,1,none⟩=some (Zi (k:Int))∧w9.cell? ⟨g,o+k * 5+3,none⟩=some (Zi (tl:Int))∧w9.cell? ⟨g,o+k * 5+4,none⟩=some (Zi (tc:Int))) (by kernel_rfl) ?_ (fun hHeld=>?_)
  ·exact⟨c0,c1,d3,d4⟩
  refine wpAnyH_take (i:=0) (v:=Zp pb) rfl (by kernel_rfl) (by kernel_rfl) (by kernel_rfl) (fun _ _ _ h=>h) (Or.inl ⟨by rfl,by intro w hSw;(try dsimp only at hSw);go_simp⟩) (by assumption) ?_
  refine wpAnyH_take (i:=1) (v:=Zp pb) rfl (by kernel_rfl) (by kernel_rfl) (by kernel_rfl) (fun _ _ _ h=>h) (Or.inl ⟨by rfl,by intro w hSw;(try dsimp only at hSw);go_simp⟩) (by assumption) ?_
  refine wpAnyH_take (i:=2) (v:=Zp pb) rfl (by kernel_rfl) (by kernel_rfl) (by kernel_rfl) (fun _ _ _ h=>h) (Or.inl ⟨by rfl,by intro w hSw;(try dsimp only at hSw);go_simp⟩) (by assumption) ?_
  refine wpAnyH_take (i:=3) (v:=.slice (some ⟨g,o,none⟩) n c) rfl (by kernel_rfl) (by kernel_rfl) (by kernel_rfl) (fun _ _ _ h=>h) (Or.inl ⟨by rfl,by intro w hSw;(try dsimp only at hSw);go_simp⟩) (by assumption) ?_
  refine wpAnyH_take (i:=4) (v:=Zp pb) rfl (by kernel_rfl) (by kernel_rfl) (by kernel_rfl) (fun _ _ _ h=>h) (Or.inl ⟨by rfl,by intro w hSw;(try dsimp only at hSw);go_simp⟩) (by assumption) ?_
  refine wpAnyH_take (i:=5) (v:=Zp pb) rfl (by kernel_rfl) (by kernel_rfl) (by kernel_rfl) (fun _ _ _ h=>h) (Or.inl ⟨by rfl,by intro w hSw;(try dsimp only at hSw);go_simp⟩) (by assumption) ?_
  refine wpAnyH_take (i:=6) (v:=.pointer (some ⟨pb,1,none⟩)) rfl (by kernel_rfl) (by kernel_rfl) (by kernel_rfl) (fun _ _ _ h=>h) (Or.inl ⟨by rfl,by intro w hSw;(try dsimp only at hSw);go_simp⟩) (by assumption) ?_
  refine wpAnyH_take (i:=7) (v:=Zi (k:Int)) rfl (by kernel_rfl) (by kernel_rfl) (by kernel_rfl) (fun _ _ _ h=>h) (Or.inl ⟨by rfl,by intro w hSw;(try dsimp only at hSw);go_simp⟩) (by assumption) ?_
  refine wpAnyH_take (i:=8) (v:=.pointer (some ⟨g,o+k * 5,none⟩)) rfl (by kernel_rfl) (by kernel_rfl) (by kernel_rfl) (fun _ _ _ h=>h) (Or.inl ⟨by rfl,by intro w hSw;(try dsimp only at hSw);go_simp⟩) (by assumption) ?_
  refine wpAnyH_take (i:=9) (v:=.pointer (some ⟨g,o+k * 5+3,none⟩)) rfl (by kernel_rfl) (by kernel_rfl) (by kernel_rfl) (fun _ _ _ h=>h) (Or.inl ⟨by rfl,by intro w hSw;(try dsimp only at hSw);go_simp⟩) (by assumption) ?_
  refine wpAnyH_take (i:=10) (v:=.agg #[Zi (tl:Int),Zi (tc:Int)]) rfl (by kernel_rfl) (by kernel_rfl) (by kernel_rfl) (fun _ _ _ h=>h) (Or.inl ⟨by rfl,by intro w hSw;(try dsimp only at hSw);go_simp⟩) (by assumption) ?_
  refine wpAnyH_ready (rs:=[11]) (by kernel_rfl) (by simp) ?_
  refine AllReadyH.cons rfl (fun K hK=>?_) AllReadyH.nil
  clear c0 c1 d3 d4
  generalize W2.drew=W4 at *
  go_simp
  refine hK.out _ _ (by exact HS9.out) (fun hHeld=>?_)
  clear hK K
  refine wpAnyH_done (by kernel_rfl) ?_ _
  go_wp2
  have hr:=HS.out W4 (Zi (tl:Int)) (Zi (tc:Int)) HR3.out
  have k0:((W4.setCell ⟨W.heap.size,0,none⟩ (Zi (tl:Int))).setCell ⟨W.heap.size,1,none⟩ (Zi (tc:Int))).cell? ⟨W.heap.size,0,none⟩=some (Zi (tl:Int)):=by simp[World.cell?,hr]
  have k1:((W4.setCell ⟨W.heap.size,0,none⟩ (Zi (tl:Int))).setCell ⟨W.heap.size,1,none⟩ (Zi (tc:Int))).cell? ⟨W.heap.size,1,none⟩=some (Zi (tc:Int)):=by simp[World.cell?,hr]
  exact bodyPost_ret (v:=.agg #[Zi (tl:Int),Zi (tc:Int)]) (by simp[results,Tryz.results62,go_sem,k0,k1]) rfl ⟨rfl,HB.out _ _ _ HB3.out⟩
theorem dfault_any (w:World) (a b c:Int):Calls Tryz.prog 26 #[.agg #[Zi a,Zi b],Zi c] w fun e w'=>e=.returned (.agg #[Zi a,Zi b,Zi c])∧Below w.heap.size w w':=by
 have hfl0:∀w:World,(Instr.field 43 (.agg #[Zi a,Zi b]) 0).run Tryz.prog w=.ok (Zi a) w:=fun _=>by kernel_rfl
 have hfl1:∀w:World,(Instr.field 43 (.agg #[Zi a,Zi b]) 1).run Tryz.prog w=.ok (Zi b) w:=fun _=>by kernel_rfl
 obtain⟨W2,hW2⟩:=nm ((w.alloc (.cells #[Zi a,Zi b] 43)).alloc (.cells #[Zi a,Zi b,Zi c] 27))
 have hr:W2.heap[w.heap.size+1]? = some (.cells #[Zi a,Zi b,Zi c] 27 (0,0)):=by rw[hW2];exact heap_alloc_new _ _ (by simp)
 have HB:Hid (Below w.heap.size w W2):=Zh (by rw[hW2];exact ((Below.refl _ _).alloc (Nat.le_refl _) _).alloc (by simp) _)
 have k0:W2.cell? ⟨w.heap.size+1,0,none⟩=some (Zi a):=by simp[World.cell?,hr]
 have k1:W2.cell? ⟨w.heap.size+1,1,none⟩=some (Zi b):=by simp[World.cell?,hr]
 have k2:W2.cell? ⟨w.heap.size+1,2,none⟩=some (Zi c):=by simp[World.cell?,hr]
 clear hr
 go_enter Tryz.func26,Tryz.ntmps26
 go_wp2
 rw[← hW2]
 exact bodyPost_ret (v:=.agg #[Zi a,Zi b,Zi c]) (by simp[results,Tryz.results26,go_sem,k0,k1,k2]) rfl ⟨rfl,HB.out⟩
def pBad {α β:Type} (en:Nat × Nat) (s:PR α):PR β:=s.bind fun _ ts=>.er (nxtP en ts) 181
theorem bad_any {α β:Type} (W:World) (pb:Nat) (al:Value) (L:List Tok) (en:Nat × Nat) (nest:Nat) (s:PR α) (h:DS W pb al L en nest s):Calls Tryz.prog 37 #[Zp pb] W fun e w'=>e=.returned (.tuple #[])∧DS w' pb al L en nest (pBad en s:PR β)∧T1 pb W w':=by
 cases s with
 | er p x=>
  obtain⟨h0,k,h1,h3,h4⟩:=h
  have HF:Hid (DS W pb al L en nest (pBad en (PR.er p x:PR α):PR β)∧T1 pb W W):=Zh ⟨⟨h0,k,h1,h3,h4⟩,T1.bel (Below.refl _ _)⟩
  obtain⟨c0,c1,c2,c3,c4,c5,c6,c7⟩:=h3.cells
  obtain⟨xi,hxi⟩:∃xi:Int,xi=(x:Int):=⟨_,rfl⟩
  rw[← hxi] at c6
  have hd:(xi == 0)=false:=by simp;omega
  have hd2:xi≠0:=by omega
  clear h3 h4 h1 h0 hxi c0 c1 c2 c3 c4 c5 c7
  go_enter Tryz.func37,Tryz.ntmps37
  go_wp2
  go_end0
  exact⟨rfl,HF.out⟩
 | ok y ts=>
  obtain⟨h0,k,h1,rfl,h3,h4⟩:=h
  have HSp:=Zh (spot_k W pb al L k en (0,0) 0 nest h1 h3 h4)
  have hF:∀U,Below W.heap.size W U→DS (((U.setCell ⟨pb,4,none⟩ (Zi ((nxtP en (L.drop k)).1:Int))).setCell ⟨pb,5,none⟩ (Zi ((nxtP en (L.drop k)).2:Int))).setCell ⟨pb,6,none⟩ (Zi 181)) pb al L en nest (pBad en (PR.ok y (L.drop k):PR α):PR β)∧T1 pb W (((U.setCell ⟨pb,4,none⟩ (Zi ((nxtP en (L.drop k)).1:Int))).setCell ⟨pb,5,none⟩ (Zi ((nxtP en (L.drop k)).2:Int))).setCell ⟨pb,6,none⟩ (Zi 181)):=fun U hU=>by
   refine⟨⟨by decide,k,h1,(h3.kept hU).setF (nxtP en (L.drop k)).1 (nxtP en (L.drop k)).2 181,h4.same (fun j hj=>?_)⟩,(T1.bel hU).trans ((T1.set.trans T1.set).trans T1.set)⟩
   rw[heap_setCell_other _ ⟨pb,6,none⟩ j _ (by show j≠pb;omega),heap_setCell_other _ ⟨pb,5,none⟩ j _ (by show j≠pb;omega),heap_setCell_other _ ⟨pb,4,none⟩ j _ (by show j≠pb;omega)]
   exact hU.block j (Nat.lt_trans hj (blk_lt h3))
  have HF:=Zh hF
  have HX:=Zh h3
  obtain⟨_,_,_,_,_,_,c6,_⟩:=h3.cells
  have c6:W.cell? ⟨pb,6,none⟩=some (Zi 0):=c6
  generalize nxtP en (L.drop k)=q at *
  obtain⟨ql,qc⟩:=q
  clear h1 h3 h4 hF h0
  go_enter Tryz.func37,Tryz.ntmps37
  go_wp2_with fail
  refine HSp.out.mono ?_
  clear HSp c6
  rintro e w1 ⟨rfl,hb1⟩
  have HF1:=Zh (dfault_any w1 (ql:Int) (qc:Int) 181)
  have HB1:=Zh hb1
  clear hb1
  go_wp2_with fail
  refine HF1.out.mono ?_
  clear HF1
  rintro e w2 ⟨rfl,hb2⟩
  have hb:=HB1.out.trans (hb2.mono HB1.out.size)
  have hx:=HX.out.kept hb
  have HB2:=Zh hb
  obtain⟨_,_,_,_,c4,c5,c6,_⟩:=hx.cells
  obtain⟨_,f4,f5,f6,_⟩:=hx.frz
  clear hb hb2 hx HX HB1
  go_wp2
  go_end0
  exact⟨rfl,HF.out w2 HB2.out⟩
theorem kw_ne:∀s∈kwL,s≠[]:=by decide
theorem DS.drop_ok {L:List Tok} (h:TksOk L) (k:Nat):TksOk (L.drop k):=fun t ht=>h t (List.mem_of_mem_drop ht)
theorem DS.next {α:Type} {W:World} {pb k nest:Nat} {al:Value} {L:List Tok} {en:Nat × Nat} (y:α) (h0:nest≤200) (hk:k < L.length) (h3:DBx W pb al k en (0,0) 0 nest) (h4:TsAt W pb al L):DS (W.setCell ⟨pb,1,none⟩ (Zi ((k+1:Nat):Int))) pb al L en nest (PR.ok y (L.drop k).tail):=by
 refine⟨h0,k+1,hk,by rw[List.tail_drop],h3.setAt (k+1),h4.same (fun j hj=>heap_setCell_other _ ⟨pb,1,none⟩ j _ (by show j≠pb;omega))⟩
theorem must_bad {α:Type} {L:List Tok} {W:World} {pb nest:Nat} {al:Value} {en:Nat × Nat} {s:PR α} {t:List UInt8} (h:DS W pb al L en nest s) (hL:TksOk L) (ht:t∈kwL) (he:pkS s≠t):(s.bind fun _ ts=>pMust en t ts)=pBad en s:=by
 cases s with
 | er p x=>rfl
 | ok y ts=>
  obtain⟨_,k,_,rfl,_⟩:=h
  show pMust en t (L.drop k)=.er _ _
  unfold pMust
  rw[if_neg (fun e=>he (pk_of (DS.drop_ok hL k) ht (kw_ne t ht) e))]
theorem must_next {α:Type} {L:List Tok} {W:World} {pb nest:Nat} {al:Value} {en:Nat × Nat} {s:PR α} {t:List UInt8} (h:DS W pb al L en nest s) (hL:TksOk L) (ht:t∈kwL) (he:pkS s=t):∃k,nest≤200∧k < L.length∧(s.bind fun _ ts=>pMust en t ts)=.ok () (L.drop k).tail∧(∃y,s=.ok y (L.drop k))∧nxtT (L.drop k)=t∧DBx W pb al k en (0,0) 0 nest∧TsAt W pb al L:=by
 cases s with
 | er p x=>exact absurd he.symm (kw_ne t ht)
 | ok y ts=>
  obtain⟨h0,k,h1,rfl,h3,h4⟩:=h
  have hn:nxtT (L.drop k)=t:=(pk_iff (DS.drop_ok hL k) ht (kw_ne t ht)).1 he
  refine⟨k,h0,?_,?_,⟨y,rfl⟩,hn,h3,h4⟩
  ·rcases Nat.lt_or_ge k L.length with h | h
   ·exact h
   ·rw[List.drop_eq_nil_of_le h] at hn
    exact absurd hn.symm (kw_ne t ht)
  ·show pMust en t (L.drop k)=_
   unfold pMust
   rw[if_pos hn]
theorem dtake_any {α:Type} (W:World) (pb:Nat) (al:Value) (L:List Tok) (en:Nat × Nat) (nest:Nat) (s:PR α) (t:List UInt8) (hL:TksOk L) (hlen:L.length≤70000) (ht:t∈kwL) (h:DS W pb al L en nest s):Calls Tryz.prog 35 #[Zp pb,.string (S t)] W fun e w'=>e=.returned (.tuple #[])∧DS w' pb al L en nest (s.bind fun _ ts=>pMust en t ts)∧T1 pb W w':=by
 have HP:=Zh (peek_any W pb al L en nest s h)
 by_cases he:pkS s=t
 ·obtain⟨k,h0,hk,hm,_,_,h3,h4⟩:=must_next h hL ht he
  rw[hm]
  have hq:((S (pkS s)).toList == (S t).toList)=true:=by rw[S_toList,S_toList,he];simp
  have HF:Hid (∀U,Below W.heap.size W U→DS (U.setCell ⟨pb,1,none⟩ (Zi ((k+1:Nat):Int))) pb al L en nest (PR.ok () (L.drop k).tail)∧T1 pb W (U.setCell ⟨pb,1,none⟩ (Zi ((k+1:Nat):Int)))):=Zh fun U hU=>
   ⟨DS.next () h0 hk (h3.kept hU) (h4.same (fun j hj=>hU.block j (Nat.lt_trans hj (blk_lt h3)))),(T1.bel hU).trans T1.set⟩
  have HX:=Zh h3
  have hw:IntKind.i64.wrap ((k:Int)+1)=((k+1:Nat):Int):=by rw[IntKind.wrap_i64];omega
  clear h hm h3 h4 h0 hk he
  generalize S (pkS s)=u1 at *
  generalize S t=u2 at *
  go_enter Tryz.func35,Tryz.ntmps35
  go_wp2_with fail
  refine HP.out.mono ?_
  clear HP
  rintro e w1 ⟨rfl,hb1⟩
  have hx:=HX.out.kept hb1
  obtain⟨_,c1,_⟩:=hx.cells
  obtain⟨f1,_⟩:=hx.frz
  have HB:=Zh hb1
  clear hb1 hx HX
  go_wp2
  go_end0
  exact⟨rfl,HF.out w1 HB.out⟩
 ·have HB:Hid (∀U,Below W.heap.size W U→Calls Tryz.prog 37 #[Zp pb] U fun e w'=>e=.returned (.tuple #[])∧DS w' pb al L en nest (pBad en s:PR Unit)∧T1 pb W w'):=Zh fun U hU=>(bad_any (β:=Unit) U pb al L en nest s (h.kept hU)).mono fun e w' q=>⟨q.1,q.2.1,(T1.bel hU).trans q.2.2⟩
  rw[must_bad h hL ht he]
  have hq:((S (pkS s)).toList == (S t).toList)=false:=by rw[S_toList,S_toList];simpa using he
  clear h he
  generalize S (pkS s)=u1 at *
  generalize S t=u2 at *
  go_enter Tryz.func35,Tryz.ntmps35
  go_wp2_with fail
  refine HP.out.mono ?_
  clear HP
  rintro e w1 ⟨rfl,hb1⟩
  have HC:=Zh (HB.out w1 hb1)
  clear hb1 HB
  go_wp2_with fail
  refine HC.out.mono ?_
  clear HC
  rintro e w2 ⟨rfl,h2⟩
  have HE:=Zh h2
  clear h2
  go_wp2
  exact bodyPost_ret (v:=.tuple #[]) (by simp[results,Tryz.results35,go_sem]) rfl ⟨rfl,HE.out⟩
theorem dis_any (W:World) (pb:Nat) (al:Value) (L:List Tok) (en:Nat × Nat) (nest:Nat) (s:PR Unit) (t:List UInt8) (hL:TksOk L) (hlen:L.length≤70000) (ht:t∈kwL) (h:DS W pb al L en nest s):Calls Tryz.prog 32 #[Zp pb,.string (S t)] W fun e w'=>e=.returned (.bool (decide (pkS s=t)))∧DS w' pb al L en nest (if pkS s=t then s.bind fun _ ts=>.ok () ts.tail else s)∧T1 pb W w':=by
 have HP:=Zh (peek_any W pb al L en nest s h)
 by_cases he:pkS s=t
 ·rw[if_pos he,decide_eq_true he]
  obtain⟨k,h0,hk,_,⟨y,rfl⟩,_,h3,h4⟩:=must_next h hL ht he
  have hq:((S (pkS (PR.ok y (L.drop k)))).toList == (S t).toList)=true:=by rw[S_toList,S_toList,he];simp
  have HF:Hid (∀U,Below W.heap.size W U→DS (U.setCell ⟨pb,1,none⟩ (Zi ((k+1:Nat):Int))) pb al L en nest (PR.ok () (L.drop k).tail)∧T1 pb W (U.setCell ⟨pb,1,none⟩ (Zi ((k+1:Nat):Int)))):=Zh fun U hU=>
   ⟨DS.next () h0 hk (h3.kept hU) (h4.same (fun j hj=>hU.block j (Nat.lt_trans hj (blk_lt h3)))),(T1.bel hU).trans T1.set⟩
  have HX:=Zh h3
  have hw:IntKind.i64.wrap ((k:Int)+1)=((k+1:Nat):Int):=by rw[IntKind.wrap_i64];omega
  clear h h3 h4 h0 hk he
  generalize S (pkS (PR.ok y (L.drop k)))=u1 at *
  generalize S t=u2 at *
  go_enter Tryz.func32,Tryz.ntmps32
  go_wp2_with fail
  refine HP.out.mono ?_
  clear HP
  rintro e w1 ⟨rfl,hb1⟩
  have hx:=HX.out.kept hb1
  obtain⟨_,c1,_⟩:=hx.cells
  obtain⟨f1,_⟩:=hx.frz
  have HB:=Zh hb1
  clear hb1 hx HX
  go_wp2
  exact bodyPost_ret (v:=.bool true) (by simp[results,Tryz.results32,go_sem]) rfl ⟨rfl,HF.out w1 HB.out⟩
 ·rw[if_neg he,decide_eq_false he]
  have hq:((S (pkS s)).toList == (S t).toList)=false:=by rw[S_toList,S_toList];simpa using he
  have HB:Hid (∀U,Below W.heap.size W U→DS U pb al L en nest s):=Zh fun U hU=>h.kept hU
  clear h he
  generalize S (pkS s)=u1 at *
  generalize S t=u2 at *
  go_enter Tryz.func32,Tryz.ntmps32
  go_wp2_with fail
  refine HP.out.mono ?_
  clear HP
  rintro e w1 ⟨rfl,hb1⟩
  have HE:=Zh hb1
  clear hb1
  go_wp2
  exact bodyPost_ret (v:=.bool false) (by simp[results,Tryz.results32,go_sem]) rfl ⟨rfl,HB.out w1 HE.out,T1.bel HE.out⟩
theorem DS.nest {α:Type} {W:World} {pb nest:Nat} {al:Value} {L:List Tok} {en:Nat × Nat} {s:PR α} (h:DS W pb al L en nest s) (n:Nat) (hn:∀y ts,s=.ok y ts→n≤200):DS (W.setCell ⟨pb,7,none⟩ (Zi (n:Int))) pb al L en n s:=by
 have hoth:∀j,j < pb→(W.setCell ⟨pb,7,none⟩ (Zi (n:Int))).heap[j]? = W.heap[j]?:=fun j hj=>heap_setCell_other _ ⟨pb,7,none⟩ j _ (by show j≠pb;omega)
 cases s with
 | ok y ts=>
  obtain⟨h0,k,h1,h2,h3,h4⟩:=h
  exact⟨hn y ts rfl,k,h1,h2,h3.setNest n,h4.same hoth⟩
 | er p x=>
  obtain⟨h0,k,h1,h3,h4⟩:=h
  exact⟨h0,k,h1,h3.setNest n,h4.same hoth⟩
theorem DS.cell7 {α:Type} {W:World} {pb nest:Nat} {al:Value} {L:List Tok} {en:Nat × Nat} {s:PR α} (h:DS W pb al L en nest s):W.cell? ⟨pb,7,none⟩=some (Zi (nest:Int))∧W.frozen? ⟨pb,7,none⟩=false:=by
 cases s with
 | ok y ts=>
  obtain⟨_,k,_,_,h3,_⟩:=h
  exact⟨h3.cells.2.2.2.2.2.2.2,h3.frz.2.2.2.2⟩
 | er p x=>
  obtain⟨_,k,_,h3,_⟩:=h
  exact⟨h3.cells.2.2.2.2.2.2.2,h3.frz.2.2.2.2⟩
theorem dcloses_any (W:World) (pb:Nat) (al:Value) (L:List Tok) (en:Nat × Nat) (nest:Nat) (s:PR Unit) (t:List UInt8) (hL:TksOk L) (hlen:L.length≤70000) (hn:nest≤1000) (ht:t∈kwL) (h:DS W pb al L en (nest+1) s):Calls Tryz.prog 60 #[Zp pb,.string (S t)] W fun e w'=>e=.returned (.tuple #[])∧DS w' pb al L en nest (s.bind fun _ ts=>pMust en t ts)∧T1 pb W w':=by
 have HT:=Zh (dtake_any W pb al L en (nest+1) s t hL hlen ht h)
 have hw:IntKind.i64.wrap (((nest+1:Nat):Int) - 1)=(nest:Int):=by rw[IntKind.wrap_i64];omega
 generalize (s.bind fun _ ts=>pMust en t ts)=M at *
 obtain⟨n1,hn1⟩:∃n1:Int,n1=((nest+1:Nat):Int):=⟨_,rfl⟩
 rw[← hn1] at hw
 have HN1:=Zh hn1
 clear h hL hlen ht hn hn1
 generalize S t=u2 at *
 go_enter Tryz.func60,Tryz.ntmps60
 go_wp2_with fail
 refine HT.out.mono ?_
 clear HT
 rintro e w1 ⟨rfl,h1,ht1⟩
 have HD:Hid (DS (w1.setCell ⟨pb,7,none⟩ (Zi (nest:Int))) pb al L en nest M∧T1 pb W (w1.setCell ⟨pb,7,none⟩ (Zi (nest:Int)))):=Zh ⟨h1.nest nest (fun y ts e=>by subst e;have:=h1.1;omega),ht1.trans T1.set⟩
 obtain⟨c7,f7⟩:=h1.cell7
 rw[← HN1.out] at c7
 clear h1 ht1 HN1
 go_wp2
 go_end0
 exact⟨rfl,HD.out⟩
def pOp (en:Nat × Nat) (nest:Nat) (t:List UInt8) (ts:List Tok):PR Unit:=if nxtT ts=t then (if nest=200 then .er (nxtP en ts) 182 else .ok () ts.tail) else .er (nxtP en ts) 181
theorem dopens_any (W:World) (pb:Nat) (al:Value) (L:List Tok) (en:Nat × Nat) (nest:Nat) (s:PR Unit) (t:List UInt8) (hL:TksOk L) (hlen:L.length≤70000) (hn:nest≤1000) (ht:t∈kwL) (h:DS W pb al L en nest s):Calls Tryz.prog 58 #[Zp pb,.string (S t)] W fun e w'=>e=.returned (.tuple #[])∧DS w' pb al L en (nest+1) (s.bind fun _ ts=>pOp en nest t ts)∧T1 pb W w':=by
 have HP:=Zh (peek_any W pb al L en nest s h)
 by_cases he:pkS s=t
 ·obtain⟨k,h0,hk,hm,⟨y,rfl⟩,hnx,h3,h4⟩:=must_next (en:=en) h hL ht he
  have hq:((S (pkS (PR.ok y (L.drop k)))).toList == (S t).toList)=true:=by rw[S_toList,S_toList,he];simp
  have hw:IntKind.i64.wrap ((nest:Int)+1)=((nest+1:Nat):Int):=by rw[IntKind.wrap_i64];omega
  by_cases h2:nest=200
  ·subst h2
   have hM:((PR.ok y (L.drop k)).bind fun _ ts=>pOp en 200 t ts)=PR.er (nxtP en (L.drop k)) 182:=by
    show pOp en 200 t (L.drop k)=_
    unfold pOp
    rw[if_pos hnx,if_pos rfl]
   rw[hM]
   have HSp:Hid (∀U,Below W.heap.size W U→Calls Tryz.prog 62 #[Zp pb] U fun e w'=>e=.returned (.agg #[Zi ((nxtP en (L.drop k)).1:Int),Zi ((nxtP en (L.drop k)).2:Int)])∧Below W.heap.size W w'):=Zh fun U hU=>(spot_k U pb al L k en (0,0) 0 200 (by omega) (h3.kept hU) (h4.same (fun j hj=>hU.block j (Nat.lt_trans hj (blk_lt h3))))).mono fun e w' q=>⟨q.1,hU.trans (q.2.mono hU.size)⟩
   have HF:Hid (∀U,Below W.heap.size W U→DS (((U.setCell ⟨pb,4,none⟩ (Zi ((nxtP en (L.drop k)).1:Int))).setCell ⟨pb,5,none⟩ (Zi ((nxtP en (L.drop k)).2:Int))).setCell ⟨pb,6,none⟩ (Zi 182)) pb al L en 200 (PR.er (nxtP en (L.drop k)) 182:PR Unit)∧T1 pb W (((U.setCell ⟨pb,4,none⟩ (Zi ((nxtP en (L.drop k)).1:Int))).setCell ⟨pb,5,none⟩ (Zi ((nxtP en (L.drop k)).2:Int))).setCell ⟨pb,6,none⟩ (Zi 182))):=Zh fun U hU=>by
    refine⟨⟨by decide,k,by omega,(h3.kept hU).setF (nxtP en (L.drop k)).1 (nxtP en (L.drop k)).2 182,h4.same (fun j hj=>?_)⟩,(T1.bel hU).trans ((T1.set.trans T1.set).trans T1.set)⟩
    rw[heap_setCell_other _ ⟨pb,6,none⟩ j _ (by show j≠pb;omega),heap_setCell_other _ ⟨pb,5,none⟩ j _ (by show j≠pb;omega),heap_setCell_other _ ⟨pb,4,none⟩ j _ (by show j≠pb;omega)]
    exact hU.block j (Nat.lt_trans hj (blk_lt h3))
   have HT:Hid (∀U (q:Nat × Nat),DS U pb al L en 200 (PR.er q 182:PR Unit)→Calls Tryz.prog 35 #[Zp pb,.string (S t)] U fun e w'=>e=.returned (.tuple #[])∧DS w' pb al L en 200 (PR.er q 182:PR Unit)∧T1 pb U w'):=Zh fun U q hU=>dtake_any U pb al L en 200 (PR.er q 182) t hL hlen ht hU
   have HX:=Zh h3
   clear h he hm hM hn hL hlen ht h0 hk hnx h3 h4 hw
   generalize nxtP en (L.drop k)=q at *
   obtain⟨ql,qc⟩:=q
   generalize S (pkS (PR.ok y (L.drop k)))=u1 at *
   generalize S t=u2 at *
   go_enter Tryz.func58,Tryz.ntmps58
   go_wp2_with fail
   refine HP.out.mono ?_
   clear HP
   rintro e w1 ⟨rfl,hb1⟩
   have HC:=Zh (HSp.out w1 hb1)
   obtain⟨_,_,_,_,_,_,_,c7⟩:=(HX.out.kept hb1).cells
   have c7:w1.cell? ⟨pb,7,none⟩=some (Zi 200):=c7
   clear hb1 HSp
   go_wp2_with fail
   refine HC.out.mono ?_
   clear HC c7
   rintro e w2 ⟨rfl,hb2⟩
   have HF1:=Zh (dfault_any w2 (ql:Int) (qc:Int) 182)
   have HB2:=Zh hb2
   clear hb2
   go_wp2_with fail
   refine HF1.out.mono ?_
   clear HF1
   rintro e w3 ⟨rfl,hb3⟩
   have hb:=HB2.out.trans (hb3.mono HB2.out.size)
   have hx:=HX.out.kept hb
   have hf:=HF.out w3 hb
   obtain⟨W4,hW4⟩:=nm (((w3.setCell ⟨pb,4,none⟩ (Zi (ql:Int))).setCell ⟨pb,5,none⟩ (Zi (qc:Int))).setCell ⟨pb,6,none⟩ (Zi 182))
   rw[← hW4] at hf
   have HC:=Zh (HT.out W4 (ql,qc) hf.1)
   have HTt:=Zh hf.2
   obtain⟨_,_,_,_,c4,c5,c6,_⟩:=hx.cells
   obtain⟨_,f4,f5,f6,_⟩:=hx.frz
   clear hb hb3 hx hf HX HB2 HF HT
   go_upto_region 2 with fail
   rw[← hW4]
   clear hW4 c4 c5 c6 f4 f5 f6
   go_wp2_with fail
   refine HC.out.mono ?_
   clear HC
   rintro e w5 ⟨rfl,h5,ht5⟩
   have HD:Hid (DS (w5.setCell ⟨pb,7,none⟩ (Zi 201)) pb al L en (200+1) (PR.er (ql,qc) 182:PR Unit)∧T1 pb W (w5.setCell ⟨pb,7,none⟩ (Zi 201))):=Zh ⟨h5.nest 201 (fun y ts e=>by cases e),(HTt.out.trans ht5).trans T1.set⟩
   obtain⟨c7,f7⟩:=h5.cell7
   have c7:w5.cell? ⟨pb,7,none⟩=some (Zi 200):=c7
   clear h5 ht5 HTt
   go_wp2
   go_end0
   exact⟨rfl,HD.out⟩
  ·have HT:Hid (∀U,Below W.heap.size W U→Calls Tryz.prog 35 #[Zp pb,.string (S t)] U fun e w'=>e=.returned (.tuple #[])∧DS w' pb al L en nest (PR.ok () (L.drop k).tail)∧T1 pb W w'):=Zh fun U hU=>(dtake_any U pb al L en nest (PR.ok y (L.drop k)) t hL hlen ht (h.kept hU)).mono fun e w' q=>⟨q.1,by rw[← hm];exact q.2.1,(T1.bel hU).trans q.2.2⟩
   have hM:((PR.ok y (L.drop k)).bind fun _ ts=>pOp en nest t ts)=PR.ok () (L.drop k).tail:=by
    show pOp en nest t (L.drop k)=_
    unfold pOp
    rw[if_pos hnx,if_neg h2]
   rw[hM]
   have hn2:nest+1≤200:=by omega
   have HN2:=Zh hn2
   obtain⟨ni,hni⟩:∃ni:Int,ni=(nest:Int):=⟨_,rfl⟩
   have hg:decide (200≤ni)=false:=by simp;omega
   have hg2:ni < 200:=by omega
   rw[← hni] at hw
   have HNI:=Zh hni
   have HX:=Zh h3
   clear h he hm hM hn hL hlen ht h0 hk hnx h3 h4 h2 hn2 hni
   generalize S (pkS (PR.ok y (L.drop k)))=u1 at *
   generalize S t=u2 at *
   go_enter Tryz.func58,Tryz.ntmps58
   go_wp2_with fail
   refine HP.out.mono ?_
   clear HP
   rintro e w1 ⟨rfl,hb1⟩
   have HC:=Zh (HT.out w1 hb1)
   obtain⟨_,_,_,_,_,_,_,c7⟩:=(HX.out.kept hb1).cells
   rw[← HNI.out] at c7
   clear hb1 HT
   go_wp2_with fail
   refine HC.out.mono ?_
   clear HC
   rintro e w2 ⟨rfl,h2,ht2⟩
   have HD:Hid (DS (w2.setCell ⟨pb,7,none⟩ (Zi ((nest+1:Nat):Int))) pb al L en (nest+1) (PR.ok () (L.drop k).tail)∧T1 pb W (w2.setCell ⟨pb,7,none⟩ (Zi ((nest+1:Nat):Int)))):=Zh ⟨h2.nest (nest+1) (fun y ts e=>HN2.out),ht2.trans T1.set⟩
   obtain⟨c7,f7⟩:=h2.cell7
   rw[← HNI.out] at c7
   clear h2 ht2
   go_wp2
   go_end0
   exact⟨rfl,HD.out⟩
 ·have hq:((S (pkS s)).toList == (S t).toList)=false:=by rw[S_toList,S_toList];simpa using he
  have HT:Hid (∀U,Below W.heap.size W U→Calls Tryz.prog 35 #[Zp pb,.string (S t)] U fun e w'=>e=.returned (.tuple #[])∧DS w' pb al L en nest (s.bind fun _ ts=>pMust en t ts)∧T1 pb W w'):=Zh fun U hU=>(dtake_any U pb al L en nest s t hL hlen ht (h.kept hU)).mono fun e w' q=>⟨q.1,q.2.1,(T1.bel hU).trans q.2.2⟩
  have HM:Hid ((s.bind fun _ ts=>pMust en t ts)=(pBad en s:PR Unit)∧(s.bind fun _ ts=>pOp en nest t ts)=(pBad en s:PR Unit)):=Zh ⟨must_bad h hL ht he,by
   cases s with
   | er p x=>rfl
   | ok y ts=>
    obtain⟨_,k,_,rfl,_⟩:=h
    show pOp en nest t (L.drop k)=.er _ _
    unfold pOp
    rw[if_neg (fun e=>he (pk_of (DS.drop_ok hL k) ht (kw_ne t ht) e))]⟩
  rw[HM.out.2]
  rw[HM.out.1] at HT
  have hw:IntKind.i64.wrap ((nest:Int)+1)=((nest+1:Nat):Int):=by rw[IntKind.wrap_i64];omega
  clear h he HM hn hL hlen ht
  generalize S (pkS s)=u1 at *
  generalize S t=u2 at *
  go_enter Tryz.func58,Tryz.ntmps58
  go_wp2_with fail
  refine HP.out.mono ?_
  clear HP
  rintro e w1 ⟨rfl,hb1⟩
  have HC:=Zh (HT.out w1 hb1)
  clear hb1 HT
  go_wp2_with fail
  refine HC.out.mono ?_
  clear HC
  rintro e w2 ⟨rfl,h2,ht2⟩
  have HD:Hid (DS (w2.setCell ⟨pb,7,none⟩ (Zi ((nest+1:Nat):Int))) pb al L en (nest+1) (pBad en s:PR Unit)∧T1 pb W (w2.setCell ⟨pb,7,none⟩ (Zi ((nest+1:Nat):Int)))):=Zh ⟨h2.nest (nest+1) (fun y ts e=>by cases s <;> cases e),ht2.trans T1.set⟩
  obtain⟨c7,f7⟩:=h2.cell7
  clear h2 ht2
  go_wp2
  go_end0
  exact⟨rfl,HD.out⟩
def ErrAt (W:World) (v:Value) (line col:Nat) (n:Int):Prop:=∃b,v=.iface 58 (Zp b)∧W.heap[b]? = some (.cells #[Zi (line:Int),Zi (col:Int),.iface 50 (Zi n)] 62 (0,0))
theorem ErrAt.kept {W W':World} {v:Value} {line col:Nat} {n:Int} (h:ErrAt W v line col n) (hb:Below W.heap.size W W'):ErrAt W' v line col n:=by
 obtain⟨b,h1,h2⟩:=h
 exact⟨b,h1,(hb.block b (Array.getElem?_eq_some_iff.1 h2).1).trans h2⟩
theorem wrongAtS_any (w:World) (line col:Nat) (n:Int):Calls Tryz.prog 14 #[.agg #[Zi (line:Int),Zi (col:Int)],Zi n] w fun e w'=>∃v,e=.returned v∧ErrAt w' v line col n∧Below w.heap.size w w':=by
 go_enter Tryz.func14,Tryz.ntmps14
 go_wp2
 go_ret
 exact⟨_,rfl,⟨_,rfl,heap_alloc_new _ _ (by simp)⟩,((Below.refl _ _).alloc (Nat.le_refl _) _).alloc (by simp) _⟩
theorem cloneLite_any (w:World) (s:ByteArray) (hs:s.size≤281474976710656):Calls Tryz.prog 63 #[.string s] w fun e w'=>e=.returned (.string s)∧Below w.heap.size w w':=
 Any.stringslite_Clone laysM316 s w hs
theorem cloneS_any (w:World) (s:ByteArray) (hs:s.size≤281474976710656):Calls Tryz.prog 38 #[.string s] w fun e w'=>e=.returned (.string s)∧Below w.heap.size w w':=by
 have HC:=cloneLite_any w s hs
 go_enter Tryz.func38,Tryz.ntmps38
 go_wp2_with fail
 refine HC.mono ?_
 rintro e w1 ⟨rfl,hb⟩
 go_wp2_with fail
 go_ret
 exact⟨rfl,hb⟩
theorem start_any (w:World):Calls Tryz.prog 16 #[] w fun e w'=>e=.returned (.agg #[Zi 1,Zi 1])∧Below w.heap.size w w':=by
 have hb:Below w.heap.size w (w.alloc (.cells #[Zi 1,Zi 1] 43)):=bel_al w _
 go_enter Tryz.func16,Tryz.ntmps16
 go_wp2
 exact bodyPost_ret (v:=.agg #[Zi 1,Zi 1]) (by simp[results,Tryz.results16,go_sem]) rfl ⟨rfl,hb⟩
def tkE (L:List UInt8) (f e:Nat) (acc:List Tok):TR:=
 if (L.drop e)=[] then .ok acc
 else match tokA (L.drop e) with
  | .er x=>.er (spO L e) x
  | .ok kd t n=>tkR L f (e+t.length) (acc ++ [(kd,t,n,spO L e)])
theorem tkR_tkE (L:List UInt8) (f k:Nat) (acc:List Tok):tkR L (f+1) k acc=tkE L f (k+KL (L.drop k)) acc:=rfl
theorem spO_add (L:List UInt8) (k n:Nat):spL (spO L k) ((L.drop k).take n)=spO L (k+n):=by
 unfold spO
 rw[← spL_app,List.take_add]
theorem skL_at (L:List UInt8) (k:Nat):skL (L.drop k) (spO L k)=(L.drop (k+KL (L.drop k)),spO L (k+KL (L.drop k))):=by
 rw[skL_KL,List.drop_drop,spO_add]
theorem spO_le (L:List UInt8) (k:Nat):(spO L k).1≤1+k∧(spO L k).2≤1+k:=by
 have h:=spL_pos (L.take k) (1,1)
 have h2:(L.take k).length≤k:=by rw[List.length_take];omega
 simp only at h
 unfold spO
 exact⟨by omega,by omega⟩
structure TI (w:World) (sb:Nat) (L:List UInt8) (U:World) (k:Nat) (av:Value) (acc:List Tok):Prop where
 sbx:SB U sb (L.drop k) (spO L k)
 own:OwnT U (sb+1) av acc
 bel:Below w.heap.size w U
 sbl:w.heap.size≤sb
theorem TI.below {w:World} {sb:Nat} {L:List UInt8} {U U':World} {k:Nat} {av:Value} {acc:List Tok} (h:TI w sb L U k av acc) (hb:Below U.heap.size U U'):TI w sb L U' k av acc:=
 ⟨h.sbx.kept hb,h.own.kept hb,h.bel.trans (hb.mono h.bel.size),h.sbl⟩
theorem TI.t1 {w:World} {sb:Nat} {L:List UInt8} {U U':World} {k k':Nat} {av:Value} {acc:List Tok} (h:TI w sb L U k av acc) (ht:T1 sb U U') (hs:SB U' sb (L.drop k') (spO L k')):TI w sb L U' k' av acc:=
 ⟨hs,ownsRow_same h.own (fun g hg=>ht.block g (World.ownsRow.lt h.own g hg).2 (by have:=(World.ownsRow.lt h.own g hg).1;omega)),⟨ht.os.trans h.bel.os,ht.tape.trans h.bel.tape,ht.output.trans h.bel.output,Nat.le_trans h.bel.size ht.size,fun q hq=>(ht.block q (Nat.lt_of_lt_of_le hq h.bel.size) (by have:=h.sbl;omega)).trans (h.bel.block q hq)⟩,h.sbl⟩
theorem TI.app {w:World} {sb:Nat} {L:List UInt8} {U U':World} {k:Nat} {av av':Value} {acc acc':List Tok} (h:TI w sb L U k av acc) (ho:OwnT U' (sb+1) av' acc') (hg:U.grownBy U' av.ownBlock):TI w sb L U' k av' acc':=
 ⟨(hg.block sb (blk_lt h.sbx) (fun e=>by have:=(World.ownsRow.lt h.own sb e.symm).1;omega)).trans h.sbx,ho,h.bel.trans ((below_grownS hg (B:=sb+1) (fun g hg2=>(World.ownsRow.lt h.own g hg2).1) (blk_lt h.sbx)).mono (by have:=h.sbl;omega)),h.sbl⟩
theorem T1.row5 {sb:Nat} {w w':World} {R:Nat} {v0 v1 v2 v3 v4:Value} (h:T1 sb w w') (hr:Row5 w R v0 v1 v2 v3 v4) (hn:R≠sb):Row5 w' R v0 v1 v2 v3 v4:=(h.block R (blk_lt hr) hn).trans hr
theorem Row5.al (U:World) (v0 v1 v2 v3 v4:Value):Row5 (U.alloc (.cells #[v0,v1,v2,v3,v4] 83)) U.heap.size v0 v1 v2 v3 v4:=Row5.new U _ _ _ _ _
def TksPost (w:World) (r:TR) (e:Ending) (w':World):Prop:=match r with
 | .ok ts=>∃a c,e=.returned (.tuple #[.slice a ts.length c,.nilIface])∧OwnT w' w.heap.size (.slice a ts.length c) ts∧Below w.heap.size w w'
 | .er p x=>∃v,e=.returned (.tuple #[Zn,v])∧ErrAt w' v p.1 p.2 (x:Int)∧Below w.heap.size w w'
end Go.Proofs.YtlfooogmoigpfaaGreatDoor
