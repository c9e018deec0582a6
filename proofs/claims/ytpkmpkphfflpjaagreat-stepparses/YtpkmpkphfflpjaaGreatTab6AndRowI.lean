import Derived.Test.YtpkmpkphfflpjaaGreatRows
import Derived.Test.YtpkmpkphfflpjaaGreatMathAndHeldSeq
import Derived.WalkKit
import Derived.WalkSpells
import Derived.Deep.QuietTactic
import Derived.BigQuiet
import Derived.StillTailTactics
import Derived.Test.YtpkmpkphfflpjaaGreatTrDoAndLooksMath
import Derived.Test.YtpkmpkphfflpjaaGreatLfpAndRef3Math
import Derived.Maps.Keyed
import Derived.WideKeyEntry
import Derived.DeepKeys4
namespace Go.Proofs.YtpkmpkphfflpjaaGreat
open Go.RowKit
abbrev Ce:=Int×List Int×Bool
def ES(w:World)(v:Value)(X:List Ce):Prop:=
 (∃a c,v= .slice a X.length c)/\∀k,k<X.length->∃b o c rl,v= .slice (some ⟨b,o,none⟩) X.length c/\w.cell? ⟨b,o+k*3,none⟩=some (.int .i64 (X.getD k (0,[],false)).1)/\
  w.cell? ⟨b,o+k*3+1,none⟩=some rl/\aH w w.heap.size rl (X.getD k (0,[],false)).2.1/\w.cell? ⟨b,o+k*3+2,none⟩=some (.bool (X.getD k (0,[],false)).2.2)
def ET(w:World)(v:Value)(X:List (List Ce)):Prop:=
 (∃a c,v= .slice a X.length c)/\∀i,i<X.length->∃b o c rv,v= .slice (some ⟨b,o,none⟩) X.length c/\w.cell? ⟨b,o+i,none⟩=some rv/\ES w rv (X.getD i [])
def Jc(w:World)(v:Value)(X:List (List Int)):Prop:=
 (∃a c,v= .slice a X.length c)/\∀i,i<X.length->∃b o c rv,v= .slice (some ⟨b,o,none⟩) X.length c/\w.cell? ⟨b,o+i,none⟩=some rv/\aH w w.heap.size rv (X.getD i [])
structure TabAt(w:World)(cv gv:Value)(C:List (List Ce))(G:List (List Int)):Prop where
 cells:ET w cv C
 goto:Jc w gv G
section
variable{w w':World}
theorem ES.below{v:Value}{X:List Ce}(h:ES w v X)(hb:Below w.heap.size w w'):ES w' v X:=
 ⟨h.1,fun k hk=>let ⟨b,o,c,rl,h1,h2,h3,h4,h5⟩:=h.2 k hk;⟨b,o,c,rl,h1,(hb.cell (World.block_lt_of_cell? _ _ h2)).trans h2,(hb.cell (World.block_lt_of_cell? _ _ h3)).trans h3,(h4.below hb).mono hb.size,(hb.cell (World.block_lt_of_cell? _ _ h5)).trans h5⟩⟩
theorem ET.below{v:Value}{X:List (List Ce)}(h:ET w v X)(hb:Below w.heap.size w w'):ET w' v X:=
 ⟨h.1,fun k hk=>let ⟨b,o,c,rv,h1,h2,h3⟩:=h.2 k hk;⟨b,o,c,rv,h1,(hb.cell (World.block_lt_of_cell? _ _ h2)).trans h2,h3.below hb⟩⟩
theorem Jc.below{v:Value}{X:List (List Int)}(h:Jc w v X)(hb:Below w.heap.size w w'):Jc w' v X:=
 ⟨h.1,fun k hk=>let ⟨b,o,c,rv,h1,h2,h3⟩:=h.2 k hk;⟨b,o,c,rv,h1,(hb.cell (World.block_lt_of_cell? _ _ h2)).trans h2,(h3.below hb).mono hb.size⟩⟩
theorem TabAt.below{cv gv:Value}{C:List (List Ce)}{G:List (List Int)}(h:TabAt w cv gv C G)(hb:Below w.heap.size w w'):TabAt w' cv gv C G:=⟨h.cells.below hb,h.goto.below hb⟩
end
def mG(c:Ce):Bool:=(decide (c.2.1.length=0)&& !c.2.2)||(decide (c.1<0)&&(decide (c.2.1.length=0)||(decide (c.2.1.length=1)&& !c.2.2)))
def nR(X:List Ce):Nat:=(X.filter fun c=> !mG c).length
def iO(C:List (List Ce)):Nat:=(C.map nR).sum
theorem abS{X:List Ce}{k:Nat}(hk:k<X.length):nR (X.take (k+1))=nR (X.take k)+(if mG (X.getD k (0,[],false)) then 0 else 1):=by
 have e:X.getD k (0,[],false)=X[k]:=by simp[List.getD,hk]
 unfold nR;rw[List.take_succ_eq_append_getElem hk,List.filter_append,List.length_append,e];cases h:mG X[k]<;>simp[h]
theorem TM{C:List (List Ce)}{i:Nat}(hi:i<C.length):iO (C.take (i+1))=iO (C.take i)+nR (C.getD i []):=by
 have e:C.getD i []=C[i]:=by simp[List.getD,hi]
 unfold iO;rw[List.take_succ_eq_append_getElem hi,List.map_append,List.sum_append,e];simp
theorem TN(X:List Ce):nR X<=X.length:=List.length_filter_le _ _
theorem abT{C:List (List Ce)}{m:Nat}(h:∀i,i<C.length->(C.getD i []).length<=m):iO C<=C.length*m:=by
 have:∀n,n<=C.length->iO (C.take n)<=n*m:=by
  intro n
  induction n with
  |zero=>simp[iO]
  |succ n ih=>
   intro hn;rw[TM (by omega),Nat.add_mul];have:=ih (by omega);have:=TN (C.getD n []);have:=h n (by omega);omega
 have h1:=this C.length (Nat.le_refl _)
 rwa [List.take_length]at h1
end Go.Proofs.YtpkmpkphfflpjaaGreat
namespace Go.Proofs.YtpkmpkphfflpjaaGreat
section
open Classical
def tu(T N:Nat)(R:List Ru)(NL:List (List Int))(Ls:List aX)(k t n:Nat):Prop:=Ls.getD k bG (n,(aJ R n).length)/\vY T R (dO R N) (jg R (dO R N) T N) NL Ls k (n,(aJ R n).length) t
noncomputable def cellP(T N:Nat)(R:List Ru)(NL:List (List Int))(Ls:List aX)(k t:Nat):Ce:=
 (if t<T then (NL.getD k []).getD t 0 else -1,((List.range R.length).filter fun n=>decide (tu T N R NL Ls k t n)).map fun n=>((n:Nat):Int),decide (tu T N R NL Ls k t R.length))
noncomputable def rowP(T N:Nat)(R:List Ru)(NL:List (List Int))(Ls:List aX)(k:Nat):List Ce:=(List.range (T+1)).map (cellP T N R NL Ls k)
noncomputable def fU(T N:Nat)(R:List Ru)(K:Nat):List (List Ce):=(List.range K).map (rowP T N R (ak T N R K).1 (ak T N R K).2)
noncomputable def lY(T N:Nat)(R:List Ru)(K:Nat):List (List Int):=(List.range K).map fun k=>((ak T N R K).1.getD k []).drop T
end
end Go.Proofs.YtpkmpkphfflpjaaGreat
namespace Go.Proofs.YtpkmpkphfflpjaaGreat
open Go.RowKit Go.MapKept
open Go.ChangeMaps (setBlock heap_setBlock_same heap_setBlock_other modify_eq_set)
open Go.WideMaps (KeyLaw)
open Go.WideElems (Fit rd rd_mk other_key entry_then_store)
section
variable{κ:Type}{P:Program}{k:TypeId}{enc:κ->Value}
structure EU(P:Program)(k:TypeId)(enc:κ->Value)(es:Array MapEntry)(clock n:Nat)(M:κ->Option Value):Prop where
 stamped:Stamped es clock
 size:es.size<=n
 keys:∀x∈es.toList,∃l,keyOf P k x.key=some l
 here:∀x∈es.toList,∃s,x.key=enc s/\M s=some x.val
 all:∀s v,M s=some v->∃x∈es.toList,x.key=enc s
def MapAt(P:Program)(k:TypeId)(enc:κ->Value)(w:World)(b n:Nat)(M:κ->Option Value):Prop:=
 ∃es clock,w.heap[b]?=some (.map es clock)/\EU P k enc es clock n M
def mH[DecidableEq κ](M:κ->Option Value)(s:κ)(v:Value):κ->Option Value:=fun t=>if t=s then some v else M t
theorem EU.fit{es:Array MapEntry}{clock n:Nat}{M:κ->Option Value}(h:EU P k enc es clock n M)(hn:n<=maxLen):Fit (H:=Unit) P k (fun _=>some (.nil,[])) es clock:=
 ⟨Nat.le_trans h.size hn,h.stamped,fun x hx=>by obtain⟨l,hl⟩:=h.keys x hx;exact⟨_,rd_mk (born:=x.born) hl rfl⟩⟩
theorem MapAt.lt{w:World}{b n:Nat}{M:κ->Option Value}(h:MapAt P k enc w b n M):b<w.heap.size:=by
 obtain⟨es,clock,hb,_⟩:=h;exact(Array.getElem?_eq_some_iff.1 hb).1
theorem MapAt.kept{w w':World}{b n:Nat}{M:κ->Option Value}(h:MapAt P k enc w b n M)(hb:w'.heap[b]?=w.heap[b]?):MapAt P k enc w' b n M:=by
 obtain⟨es,clock,h1,h2⟩:=h;exact⟨es,clock,hb.trans h1,h2⟩
theorem MapAt.alloc{w:World}{b n:Nat}{M:κ->Option Value}(h:MapAt P k enc w b n M)(o:Obj):MapAt P k enc (w.alloc o) b n M:=
 h.kept ((World.grownBy_alloc w o none).block b h.lt (by simp))
theorem MapAt.mono{w:World}{b n n':Nat}{M:κ->Option Value}(h:MapAt P k enc w b n M)(hn:n<=n'):MapAt P k enc w b n' M:=by
 obtain⟨es,clock,h1,h2⟩:=h;exact⟨es,clock,h1,⟨h2.stamped,Nat.le_trans h2.size hn,h2.keys,h2.here,h2.all⟩⟩
theorem MapAt.congr{w:World}{b n:Nat}{M M':κ->Option Value}(h:MapAt P k enc w b n M)(e:M=M'):MapAt P k enc w b n M':=e▸h
theorem MapAt.setCell{w:World}{b n:Nat}{M:κ->Option Value}(h:MapAt P k enc w b n M){a:Addr}(ha:a.block≠b)(u:Value):MapAt P k enc (w.setCell a u) b n M:=
 h.kept (Below.heap_setCell _ _ _ _ (fun e=>ha e.symm))
theorem TP(w:World)(P:Program)(k:TypeId)(enc:κ->Value):MapAt P k enc (w.alloc (.map #[] 0)) w.heap.size 0 (fun _=>none):=
 ⟨#[],0,(MapKept.heap_alloc w _).1,stamped_empty 0,by simp,by simp,by simp,fun _ _ h=>by cases h⟩
theorem TQ{w:World}{b n:Nat}{M:κ->Option Value}(h:MapAt P k enc w b n M)(c:Bool)(hn:n<=maxLen)(K:KeyLaw P k){t e:TypeId}(ht:P.underlying t=some (.map k e)){z:Value}(hz:(zeroValue e).run P w= .ok z w)
 (inj:∀s s',enc s=enc s'->s=s') {s:κ} {kl:Lit} (hkey:keyOf P k (enc s)=some kl):
 (Instr.lookup t (.map (some b)) (enc s) c).run P w= .ok (if c then .tuple #[(M s).getD z,.bool (M s).isSome] else (M s).getD z) w:=by
 obtain⟨es,clock,hb,hM⟩:=h;rcases Maps.fit_look c (Maps.Keyed.of_law K) ht hz hb (hM.fit hn) hkey with⟨hrun,hno,_⟩|⟨e0,y,hmem,hk0,hrun,_⟩
 ·have:M s=none:=by
   cases hs:M s with
   |none=>rfl
   |some v=>
    obtain⟨x,hx,hxk⟩:=hM.all s v hs;exact absurd hxk (hno x hx)
  rw[hrun,this];rfl
 ·obtain⟨s',h1,h2⟩:=hM.here e0 hmem
  have:s=s':=inj _ _ (hk0.symm.trans h1);subst this;rw[hrun,h2];rfl
variable[DecidableEq κ]
theorem abU{w:World}{b n:Nat}{M:κ->Option Value}{es:Array MapEntry}{clock:Nat}(hb:w.heap[b]?=some (.map es clock))(hM:EU P k enc es clock n M)(K:KeyLaw P k){t e:TypeId}(ht:P.underlying t=some (.map k e))
 (inj:∀s s',enc s=enc s'->s=s') {s:κ} {kl:Lit} (hkey:keyOf P k (enc s)=some kl) (val:Value):
 ∃es' clock',(Instr.mapUpdate t (.map (some b)) (enc s) val).run P w= .ok () (setBlock w b (.map es' clock'))/\EU P k enc es' clock' (n+1) (mH M s val):=by
 rcases K.find w hkey es.toList hM.keys with⟨h1,h2⟩|⟨j,e0,h1,h2,h3⟩
 ·refine⟨es.push ⟨enc s,val,clock⟩,clock+1,?_,stamped_push hM.stamped h2,?_,?_,?_,?_⟩
  ·simp[Instr.mapUpdate,run_underlying ht,MapKept.run_getObj_map hb,K.check w false hkey,h1,MapKept.run_setObj_map _ hb,Result.andThen,setBlock]
  ·have:=hM.size;simp;omega
  ·intro x hx
   simp only[Array.toList_push,List.mem_append,List.mem_singleton]at hx;rcases hx with hx|rfl
   ·exact hM.keys x hx
   ·exact⟨_,hkey⟩
  ·intro x hx
   simp only[Array.toList_push,List.mem_append,List.mem_singleton]at hx;rcases hx with hx|rfl
   ·obtain⟨s',a,b⟩:=hM.here x hx
    have hne:s'≠s:=fun e=>h2 x hx (by rw[a,e]);exact⟨s',a,by simp[mH,hne,b]⟩
   ·exact⟨s,rfl,by simp[mH]⟩
  ·intro s' v hv
   by_cases e1:s'=s
   ·subst e1
    exact⟨⟨enc s',val,clock⟩,by simp,rfl⟩
   ·simp only[mH,e1,if_false]at hv
    obtain⟨x,hx,hk⟩:=hM.all s' v hv;exact⟨x,by simp[hx],hk⟩
 ·have hj:es[j]?=some e0:=by simpa using h2
  have hjl:j<es.toList.length:=(List.getElem?_eq_some_iff.1 h2).1;have hkeyf:∀e',es[j]?=some e'->({ e' with key:=enc s,val:=val }:MapEntry).key=e'.key:=fun e' he'=>by rw[hj]at he';cases he';exact h3.symm
  have hlist:(es.modify j (fun e'=>{ e' with key:=enc s,val:=val })).toList=es.toList.set j { e0 with key:=enc s,val:=val }:=by rw[Array.toList_modify,modify_eq_set _ _ _ _ h2]
  have hpw:=((stamped_iff es clock).1 hM.stamped).2.2
  have who:∀x∈es.toList.set j { e0 with key:=enc s,val:=val },x={ e0 with key:=enc s,val:=val }\/(x∈es.toList/\x.key≠enc s):=by
   intro x hx;obtain⟨i,hi,ex⟩:=List.getElem_of_mem hx;rw[List.getElem_set]at ex;split at ex
   ·exact Or.inl ex.symm
   ·rename_i hne
    have hi':i<es.toList.length:=by simpa using hi
    refine Or.inr ⟨ex▸List.getElem_mem hi',?_⟩
    have ej:es.toList[j]=e0:=by
     have:=List.getElem?_eq_getElem hjl;rw[h2]at this;exact(Option.some.inj this).symm
    have hd:es.toList[i].key≠es.toList[j].key:=by
     rcases Nat.lt_or_ge i j with h|h
     ·exact List.pairwise_iff_getElem.1 hpw i j hi' hjl h
     ·exact fun e1=>List.pairwise_iff_getElem.1 hpw j i hjl hi' (by omega) e1.symm
    rw[ej]at hd;rw[<-h3,<-ex];exact hd
  refine⟨es.modify j (fun e'=>{ e' with key:=enc s,val:=val }),clock,?_,stamped_modify hM.stamped _ _ (fun _ _=>rfl) (fun e' _ he'=>hkeyf e' he'),?_,?_,?_,?_⟩
  ·simp[Instr.mapUpdate,run_underlying ht,MapKept.run_getObj_map hb,K.check w false hkey,h1,hj,h3,K.stays w hkey,MapKept.run_setObj_map _ hb,Result.andThen,setBlock]
  ·have:=hM.size;simp;omega
  ·intro x hx
   rw[hlist]at hx;rcases who x hx with rfl|⟨hx',hne⟩
   ·exact⟨_,hkey⟩
   ·exact hM.keys x hx'
  ·intro x hx
   rw[hlist]at hx;rcases who x hx with rfl|⟨hx',hne⟩
   ·exact⟨s,rfl,by simp[mH]⟩
   ·obtain⟨s',a,b⟩:=hM.here x hx'
    have hs:s'≠s:=fun e=>hne (by rw[a,e]);exact⟨s',a,by simp[mH,hs,b]⟩
  ·intro s' v hv
   rw[hlist];by_cases e1:s'=s
   ·subst e1
    exact⟨{ e0 with key:=enc s',val:=val },List.mem_iff_getElem.2 ⟨j,by simpa using hjl,by simp⟩,rfl⟩
   ·simp only[mH,e1,if_false]at hv
    obtain⟨x,hx,hk⟩:=hM.all s' v hv;obtain⟨i,hi,ex⟩:=List.getElem_of_mem hx
    have hij:j≠i:=fun e2=>by
     subst e2;have:=List.getElem?_eq_getElem hi;rw[h2]at this;have ej:=Option.some.inj this;rw[<-ex,<-ej,h3]at hk;exact e1 (inj _ _ hk).symm
    exact⟨x,List.mem_iff_getElem.2 ⟨i,by simpa using hi,by rw[List.getElem_set_ne hij];exact ex⟩,hk⟩
theorem abV{w:World}{b:Nat}{es:Array MapEntry}{clock:Nat}(hb:w.heap[b]?=some (.map es clock))(o:Obj):w.grownBy (setBlock w b o) (some b):=
 ⟨rfl,rfl,rfl,by simp[setBlock],fun i _ hi=>heap_setBlock_other hb _ (fun e=>hi (by rw[e]))⟩
theorem TR{w:World}{b n:Nat}{M:κ->Option Value}(h:MapAt P k enc w b n M)(K:KeyLaw P k){t e:TypeId}(ht:P.underlying t=some (.map k e))
 (inj:∀s s',enc s=enc s'->s=s') {s:κ} {kl:Lit} (hkey:keyOf P k (enc s)=some kl) (val:Value):
 ∃w',(Instr.mapUpdate t (.map (some b)) (enc s) val).run P w= .ok () w'/\MapAt P k enc w' b (n+1) (mH M s val)/\w.grownBy w' (some b)/\w'.heap.size=w.heap.size:=by
 obtain⟨es,clock,hb,hM⟩:=h;obtain⟨es',clock',h1,h2⟩:=abU hb hM K ht inj hkey val;exact⟨_,h1,⟨es',clock',heap_setBlock_same hb _,h2⟩,abV hb _,by simp[setBlock]⟩
end
section
variable{w w':World}
theorem TS{base:Nat}{e:TypeId}{size n:Nat}{x:Value}{xs:List Value}(h:w.ownsRow base e size x n xs)(hh:∀g,x.ownBlock=some g->w'.heap[g]?=w.heap[g]?):w'.ownsRow base e size x n xs:=by
 refine⟨h.1,?_⟩;rcases h.2 with h2|⟨g,cap,cur,rfl,h2,h3,h4⟩
 ·exact .inl h2
 ·exact .inr ⟨g,cap,cur,rfl,h2,(hh g rfl).trans h3,h4⟩
theorem TT{base:Nat}{e:TypeId}{size n:Nat}{x:Value}{xs:List Value}(h:w.ownsRow base e size x n xs){b:Nat}{es:Array MapEntry}{c:Nat}(hb:w.heap[b]?=some (.map es c)):x.ownBlock≠some b:=by
 rcases h.2 with⟨rfl,_⟩|⟨g,cap,cur,rfl,h2,h3,h4⟩
 ·intro e;cases e
 ·intro e
  have:g=b:=by simpa [Value.ownBlock] using e
  subst this;rw[hb]at h3;cases h3
theorem MapAt.isMap{κ:Type}{P:Program}{k:TypeId}{enc:κ->Value}{b n:Nat}{M:κ->Option Value}(h:MapAt P k enc w b n M):∃es c,w.heap[b]?=some (.map es c):=by
 obtain⟨es,c,hb,_⟩:=h;exact⟨es,c,hb⟩
theorem au.heap{ι:Type}{P:ι->Option Row}{base:Nat}(h:au w base P)(hh:∀i r g,P i=some r->r.v.ownBlock=some g->w'.heap[g]?=w.heap[g]?):au w' base P:=
 ⟨fun i r hr=>TS (h.own i r hr) fun g hg=>hh i r g hr hg,h.apart⟩
end
end Go.Proofs.YtpkmpkphfflpjaaGreat
namespace Go.Proofs.YtpkmpkphfflpjaaGreat
open Classical
theorem TU{α:Type}{lt:α->α->Prop}(tr:∀a b c,lt a b->lt b c->lt a c)(ir:∀a,¬lt a a){A B:List α}(hA:A.Pairwise lt)(hB:B.Pairwise lt)(h:∀x,x∈A↔x∈B):A=B:=by
 induction A generalizing B with
 |nil=>
  cases B with
  |nil=>rfl
  |cons b B=>exact absurd ((h b).2 (by simp)) (by simp)
 |cons a A ih=>
  cases B with
  |nil=>exact absurd ((h a).1 (by simp)) (by simp)
  |cons b B=>
   rw[List.pairwise_cons]at hA hB
   have hab:a=b:=by
    rcases List.mem_cons.1 ((h a).1 (by simp)) with e|e
    ·exact e
    ·rcases List.mem_cons.1 ((h b).2 (by simp)) with e'|e'
     ·exact e'.symm
     ·exact absurd (tr _ _ _ (hA.1 b e') (hB.1 a e)) (ir a)
   subst hab;rw[ih hA.2 hB.2 fun x=>⟨fun hx=> ?_,fun hx=> ?_⟩]
   ·rcases List.mem_cons.1 ((h x).1 (by simp[hx])) with e|e
    ·subst e;exact absurd (hA.1 x hx) (ir x)
    ·exact e
   ·rcases List.mem_cons.1 ((h x).2 (by simp[hx])) with e|e
    ·subst e;exact absurd (hB.1 x hx) (ir x)
    ·exact e
def jb(a b:It):Prop:=a.1<b.1\/(a.1=b.1/\a.2<b.2)
theorem TV(a b c:It)(h:jb a b)(k:jb b c):jb a c:=by unfold jb at*;omega
theorem Ns(a:It):¬jb a a:=by unfold jb;omega
theorem TW{L:List It}(h:L.Pairwise jb):L.Nodup:=h.imp fun {a b} h e=>by subst e;exact Ns a h
structure jO(R:List Ru)(OL:List (List It))(Ls:List aX):Prop where
 len:OL.length=Ls.length
 iZ:∀i,i<OL.length->rH (OL.getD i []) (Ls.getD i bG)
 EW:∀i,i<OL.length->(OL.getD i []).Pairwise jb
 dist:Nf Ls
 ok:∀i,i<OL.length->∀t∈OL.getD i [],lX R t
section
variable{T N:Nat}{R:List Ru}{OL:List (List It)}{Ls:List aX}{k x:Nat}
theorem jO.push(h:jO R OL Ls){C:List It}{S:aX}(hC:rH C S)(hs:C.Pairwise jb)(hno:∀n,n<Ls.length->Ls.getD n bG≠S)(hok:∀t∈C,lX R t):jO R (OL++[C]) (Ls++[S]):=by
 have hl:=h.len
 have tq:∀i,i<(OL++[C]).length->(i<OL.length/\(OL++[C]).getD i []=OL.getD i []/\(Ls++[S]).getD i bG=Ls.getD i bG)\/(i=OL.length/\(OL++[C]).getD i []=C/\(Ls++[S]).getD i bG=S):=fun i hi=>by
  simp only[List.length_append,List.length_cons,List.length_nil]at hi;rcases Nat.lt_succ_iff_lt_or_eq.1 hi with hi|hi
  ·exact .inl ⟨hi,I8 hi,I8 (by omega)⟩
  ·exact .inr ⟨hi,I9 hi,I9 (by omega)⟩
 refine⟨by simp[hl],fun i hi=> ?_,fun i hi=> ?_,fun i j hi hj e=> ?_,fun i hi=> ?_⟩
 ·rcases tq i hi with⟨h1,h2,h3⟩|⟨h1,h2,h3⟩
  ·rw[h2,h3];exact h.iZ i h1
  ·rw[h2,h3];exact hC
 ·rcases tq i hi with⟨h1,h2,_⟩|⟨_,h2,_⟩
  ·rw[h2];exact h.EW i h1
  ·rw[h2];exact hs
 ·have hi':i<(OL++[C]).length:=by simp only[List.length_append,List.length_cons,List.length_nil]at hi⊢;omega
  have hj':j<(OL++[C]).length:=by simp only[List.length_append,List.length_cons,List.length_nil]at hj⊢;omega
  rcases tq i hi' with⟨h1,_,h3⟩|⟨h1,_,h3⟩<;>rcases tq j hj' with⟨k1,_,k3⟩|⟨k1,_,k3⟩
  ·rw[h3,k3]at e;exact h.dist i j (by omega) (by omega) e
  ·rw[h3,k3]at e;exact absurd e (hno i (by omega))
  ·rw[h3,k3]at e;exact absurd e.symm (hno j (by omega))
  ·omega
 ·rcases tq i hi with⟨h1,h2,_⟩|⟨_,h2,_⟩
  ·rw[h2];exact h.ok i h1
  ·rw[h2];exact hok
theorem abW(R:List Ru):jO R [] []:=⟨rfl,fun _ hi=>absurd hi (Nat.not_lt_zero _),fun _ hi=>absurd hi (Nat.not_lt_zero _),fun _ _ hi=>absurd hi (Nat.not_lt_zero _),fun _ hi=>absurd hi (Nat.not_lt_zero _)⟩
theorem abX{C:List It}(hs:C.Pairwise jb)(hC:∀i,i∈C↔Cl R (· ∈[(R.length,0)]) i):jO R [C] [Cl R fun i=>i=(R.length,0)]:=by
 have e:(fun i:It=>i∈[(R.length,0)])=fun i=>i=(R.length,0):=funext fun i=>by simp
 rw[e]at hC;exact(abW R).push (C:=C) ⟨TW hs,hC⟩ hs (fun n hn=>absurd hn (Nat.not_lt_zero _)) (fun t ht=>Ni (S:=fun i=>i=(R.length,0)) (fun i hi=>by rw[hi];exact⟨Nat.le_refl _,Nat.zero_le _⟩) ((hC t).1 ht))
theorem jO.same(h:jO R OL Ls){n:Nat}(hn:n<OL.length){C:List It}{S:aX}(hC:rH C S)(hs:C.Pairwise jb):OL.getD n []=C↔Ls.getD n bG=S:=by
 constructor
 ·intro e
  have:=h.iZ n hn;rw[e]at this;exact this.eq hC
 ·intro e
  have:=h.iZ n hn;rw[e]at this;exact TU TV Ns (h.EW n hn) hs fun i=>(this.mem i).trans (hC.mem i).symm
def EX(OL:List (List It))(C:List It)(n:Nat)(EY:List (List It)):Prop:=
 (n<OL.length/\OL.getD n []=C/\EY=OL)\/((∀j,j<OL.length->OL.getD j []≠C)/\n=OL.length/\EY=OL++[C])
theorem jO.visit(h:jO R OL Ls)(hk:k<OL.length)(hne:dM T R (OL.getD k []) x (OL.getD k []).length≠[]){C:List It}(hs:C.Pairwise jb)(hC:∀i,i∈C↔Cl R (· ∈dM T R (OL.getD k []) x (OL.getD k []).length) i)
 {n:Nat} {EY:List (List It)} (ht:EX OL C n EY):(Proofs.YtpkmpkphfflpjaaGreat.visit T R Ls k x).1=n/\jO R EY (Proofs.YtpkmpkphfflpjaaGreat.visit T R Ls k x).2:=by
 have hrep:=abJ (h.iZ k hk) (TW hs) hC;have hex:∃i,Ls.getD k bG i/\jN T R i x:=Classical.byContradiction fun hno=>hne ((TF (h.iZ k hk)).2 hno);rcases ht with⟨h1,h2,rfl⟩|⟨h1,rfl,rfl⟩
 ·rw[abF h.dist hex (by rw[<-h.len];exact h1) ((h.same h1 hrep hs).1 h2)]
  exact⟨rfl,h⟩
 ·have hno:∀n,n<Ls.length->Ls.getD n bG≠pG T R (Ls.getD k bG) x:=fun n hnl e=>
   h1 n (by rw[h.len];exact hnl) ((h.same (by rw[h.len];exact hnl) hrep hs).2 e)
  have abY:∀i,BG T R (Ls.getD k bG) x i->lX R i:=abM fun i hi=>h.ok k hk i (((h.iZ k hk).mem i).2 hi);rw[abG hex hno];exact⟨by rw[h.len],h.push hrep hs hno (fun t ht=>Ni abY ((hrep.mem t).1 ht))⟩
theorem jO.abZ(h:jO R OL Ls)(hk:k<OL.length)(he:dM T R (OL.getD k []) x (OL.getD k []).length=[]):Proofs.YtpkmpkphfflpjaaGreat.visit T R Ls k x=(-1,Ls):=
 Ng ((TF (h.iZ k hk)).1 he)
theorem jO.TY(h:jO R OL Ls)(hk:k<OL.length){j:Nat}:∀i∈dM T R (OL.getD k []) x j,lX R i/\i.2≠0:=fun i hi=>by
 unfold dM at hi;obtain⟨b,hb,rfl⟩:=List.mem_map.1 hi;rw[List.mem_filter]at hb;have hbo:=h.ok k hk b (List.mem_of_mem_take hb.1);obtain⟨s,h2,_⟩:jN T R b x:=by simpa using hb.2
 have:=(List.getElem?_eq_some_iff.1 h2).1;exact⟨⟨hbo.1,by simp only;omega⟩,by simp⟩
end
def dD(T x:Nat):Sy:=if x<T then (true,(x:Int)) else (false,((x-T:Nat):Int))
theorem EZ(T x:Nat):dB T (dD T x)=x:=by
 unfold dD dB;split
 ·simp
 ·simp;omega
theorem Jd{T x y:Nat}(h:dD T x=dD T y):x=y:=by
 have h1:=EZ T x;rw[h,EZ]at h1;omega
theorem Nt{T N:Nat}{s:Sy}(h1:s.1=true->0<=s.2/\s.2<(T:Int))(h2:s.1=false->0<=s.2/\s.2<(N:Int)):dD T (dB T s).toNat=s/\(dB T s).toNat<T+N:=by
 obtain⟨b,v⟩:=s;cases b with
 |true=>
  have:=h1 rfl;simp only at this;simp only[dB,dD,if_true];rw[if_pos (by omega)];refine⟨?_,by omega⟩
  congr 1
  omega
 |false=>
  have:=h2 rfl;simp only at this;simp only[dB,dD,Bool.false_eq_true,if_false];rw[if_neg (by omega)];refine⟨?_,by omega⟩
  congr 1
  omega
theorem ab1{T N:Nat}{R:List Ru}{i:It}{x:Nat}(hR:∀s∈aJ R i.1,(s.1=true->0<=s.2/\s.2<(T:Int))/\(s.1=false->0<=s.2/\s.2<(N:Int))):jN T R i x↔(aJ R i.1)[i.2]?=some (dD T x):=by
 unfold jN;constructor
 ·rintro ⟨s,h1,h2⟩
  obtain⟨e,_⟩:=Nt (hR s (List.mem_of_getElem? h1)).1 (hR s (List.mem_of_getElem? h1)).2;rw[h1,<-e,h2];simp
 ·intro h
  exact⟨_,h,EZ T x⟩
abbrev Wy:=Nat×Sy
noncomputable def bF(T:Nat)(NL:List (List Int)):Wy->Option Value:=fun p=>
 if ∃x,x<(NL.getD p.1 []).length/\p.2=dD T x/\0<=(NL.getD p.1 []).getD x 0 then some (.int .i64 ((NL.getD p.1 []).getD (dB T p.2).toNat 0)) else none
section
variable{T:Nat}{NL:List (List Int)}
theorem ab2(T:Nat):bF T []=fun _=>none:=by
 funext p
 unfold bF;rw[if_neg];rintro ⟨x,h,_⟩;simp[List.getD]at h
theorem BJ{k x:Nat}(hx:x<(NL.getD k []).length):bF T NL (k,dD T x)=if 0<=(NL.getD k []).getD x 0 then some (.int .i64 ((NL.getD k []).getD x 0)) else none:=by
 unfold bF;simp only[EZ,Int.toNat_natCast];by_cases h:0<=(NL.getD k []).getD x 0
 ·rw[if_pos h,if_pos ⟨x,hx,rfl,h⟩]
 ·rw[if_neg h,if_neg]
  rintro ⟨y,h1,h2,h3⟩;rw[Jd h2]at h;exact h h3
theorem Nv{k:Nat}{s:Sy}(hs:∀x,s≠dD T x):bF T NL (k,s)=none:=by
 unfold bF;rw[if_neg];rintro ⟨x,_,h,_⟩;exact hs x h
theorem ab3:bF T (NL++[[]])=bF T NL:=by
 funext p
 unfold bF
 have e:(NL++[[]]).getD p.1 []=NL.getD p.1 []:=by
  by_cases h:p.1<NL.length
  ·simp[List.getD,List.getElem?_append_left h]
  ·rw[List.getD,List.getD,List.getElem?_append_right (by omega),List.getElem?_eq_none (show NL.length<=p.1 by omega)]
   cases h2:p.1-NL.length<;>simp
 rw[e]
theorem T9{row:List Int}{z:Int}:bF T (NL++[row++[z]])=if 0<=z then mH (bF T (NL++[row])) (NL.length,dD T row.length) (.int .i64 z) else bF T (NL++[row]):=by
 have gk:∀r:List Int,(NL++[r]).getD NL.length []=r:=fun r=>by simp[List.getD]
 have go:∀(r:List Int) (k:Nat),k≠NL.length->(NL++[r]).getD k []=NL.getD k []:=fun r k hk=>by
  by_cases h:k<NL.length
  ·simp[List.getD,List.getElem?_append_left h]
  ·rw[List.getD,List.getD,List.getElem?_append_right (by omega),List.getElem?_eq_none (show NL.length<=k by omega)]
   rw[List.getElem?_eq_none (by simp;omega)]
 have Ua:(row++[z]).getD row.length 0=z:=by simp[List.getD]
 have ab4:∀x,x<row.length->(row++[z]).getD x 0=row.getD x 0:=fun x hx=>by simp[List.getD,List.getElem?_append_left hx]
 have other:∀k s,(k,s)≠(NL.length,dD T row.length)->bF T (NL++[row++[z]]) (k,s)=bF T (NL++[row]) (k,s):=fun k s hne=>by
  by_cases hk:k=NL.length
  ·subst hk
   have hs:s≠dD T row.length:=fun e=>hne (by rw[e]);by_cases hex:∃x,s=dD T x
   ·obtain⟨x,rfl⟩:=hex
    have hx:x≠row.length:=fun e=>hs (by rw[e]);by_cases hl:x<row.length
    ·rw[BJ (by rw[gk];simp;omega),BJ (by rw[gk];exact hl),gk,gk,ab4 x hl]
    ·unfold bF
     rw[if_neg,if_neg]
     ·rintro ⟨y,h1,h2,_⟩
      rw[gk]at h1;have:=Jd h2;omega
     ·rintro ⟨y,h1,h2,_⟩
      rw[gk]at h1;simp only[List.length_append,List.length_cons,List.length_nil]at h1;have:=Jd h2;omega
   ·rw[Nv (fun x e=>hex ⟨x,e⟩),Nv (fun x e=>hex ⟨x,e⟩)]
  ·unfold bF
   simp only[go _ k hk]
 by_cases hz:0<=z
 ·rw[if_pos hz]
  funext p
  by_cases hp:p=(NL.length,dD T row.length)
  ·subst hp
   rw[BJ (by rw[gk];simp),gk,Ua,if_pos hz];simp[mH]
  ·rw[other p.1 p.2 hp]
   simp[mH,hp]
 ·rw[if_neg hz]
  funext p
  by_cases hp:p=(NL.length,dD T row.length)
  ·subst hp
   rw[BJ (by rw[gk];simp),gk,Ua,if_neg hz];unfold bF;rw[if_neg];rintro ⟨y,h1,h2,_⟩;simp only[gk]at h1;have:=Jd h2;omega
  ·exact other p.1 p.2 hp
end
abbrev bf:=Nat×It
def iP(OL:List (List It))(s:bf):Prop:=s.1<OL.length/\s.2∈OL.getD s.1 []
structure kG(T N:Nat)(R:List Ru)(OL:List (List It))(NL:List (List Int))(Ls:List aX):Prop where
 lD:jO R OL Ls
 go:∀k,k<OL.length->∀x,x<T+N->(NL.getD k []).length=T+N/\vW T R Ls k x ((NL.getD k []).getD x 0)
 cl:∀k,k<OL.length->vX R (Ls.getD k bG)
 sym:∀r,r<=R.length->∀s∈aJ R r,(s.1=true->0<=s.2/\s.2<(T:Int))/\(s.1=false->0<=s.2/\s.2<(N:Int))
 zero:iP OL (0,(R.length,0))
section
variable{T N:Nat}{R:List Ru}{OL:List (List It)}{NL:List (List Int)}{Ls:List aX}{Nu:List Bool}{Fi:List (List Bool)}
theorem kG.item(A:kG T N R OL NL Ls){p:bf}(hp:iP OL p):Ls.getD p.1 bG p.2/\lX R p.2:=⟨((A.lD.iZ p.1 hp.1).mem _).1 hp.2,A.lD.ok p.1 hp.1 _ hp.2⟩
theorem kG.on(A:kG T N R OL NL Ls){p:bf}(hp:iP OL p){s:Sy}(hs:(aJ R p.2.1)[p.2.2]?=some s):
 (NL.getD p.1 []).getD (dB T s).toNat 0=((toN NL T p.1 s:Nat):Int)/\iP OL (toN NL T p.1 s,(p.2.1,p.2.2+1)):=by
 obtain⟨h2,h3⟩:=A.item hp;have hsy:=A.sym _ h3.1 s (List.mem_of_getElem? hs);obtain⟨e0,hx⟩:=Nt hsy.1 hsy.2
 have hcast:((dB T s).toNat:Int)=dB T s:=by
  have:=EZ T (dB T s).toNat;rw[e0]at this;omega
 obtain⟨_,hg⟩:=A.go p.1 hp.1 _ hx;obtain⟨n,e1,e2,e3⟩:=hg.some ⟨_,h2,s,hs,hcast.symm⟩;have et:toN NL T p.1 s=n:=by unfold toN;rw[e1];simp
 rw[et,e1];have hn':n<OL.length:=by rw[A.lD.len];exact e2
 refine⟨rfl,hn',((A.lD.iZ n hn').mem _).2 ?_⟩;rw[e3];exact Nr h2 hs hcast.symm
theorem kG.close(A:kG T N R OL NL Ls){p:bf}(hp:iP OL p){m:Int}(hs:(aJ R p.2.1)[p.2.2]?=some (false,m)){n:Nat}(hn:n<R.length)(hL:(R.getD n (0,[])).1=m):iP OL (p.1,(n,0)):=
 ⟨hp.1,((A.lD.iZ p.1 hp.1).mem _).2 (Nq (A.cl p.1 hp.1) (A.item hp).1 hs hn hL)⟩
end
def maskN(L:List Bool):Nat->Nat
 |0=>0
 |n+1=>if L.getD n false then maskN L n|||2^n else maskN L n
theorem Ub(L:List Bool)(n t:Nat):(maskN L n).testBit t=(decide (t<n)&&L.getD t false):=by
 induction n with
 |zero=>simp[maskN]
 |succ n ih=>
  unfold maskN;by_cases h:L.getD n false=true
  ·rw[if_pos h,Nat.testBit_or,ih,Nat.testBit_two_pow]
   by_cases e:n=t
   ·subst e;rw[h];simp
   ·have e1:decide (t<n+1)=decide (t<n):=by rw[decide_eq_decide];omega
    rw[e1];simp[e]
  ·rw[if_neg h,ih]
   by_cases e:n=t
   ·subst e
    have:L.getD n false=false:=by simpa using h
    rw[this];simp
   ·have e1:decide (t<n+1)=decide (t<n):=by rw[decide_eq_decide];omega
    rw[e1]
def lZ(Fi:List (List Bool))(s:Sy):Nat:=if s.1 then 2^s.2.toNat else maskN (Fi.getD s.2.toNat []) (Fi.getD s.2.toNat []).length
def kH(Nu:List Bool)(Fi:List (List Bool)):Nat->List Sy->Nat×Bool
 |a,[]=>(a,true)
 |a,s::l=>if s.1|| !Nu.getD s.2.toNat false then (a|||lZ Fi s,false) else kH Nu Fi (a|||lZ Fi s) l
def E5(T N:Nat)(l:List Sy):Prop:=∀s∈l,(s.1=true->0<=s.2/\s.2<(T:Int))/\(s.1=false->0<=s.2/\s.2<(N:Int))
section
variable{T N:Nat}{Nu:List Bool}{Fi:List (List Bool)}
theorem ab5{L:List Bool}(hL:L.length<=T)(t:Nat):(decide (t<L.length)&&L.getD t false)=(decide (t<T)&&L.getD t false):=by
 by_cases h:t<L.length
 ·have:t<T:=by omega
  simp[h,this]
 ·have e:L.getD t false=false:=by simp[List.getD,List.getElem?_eq_none (show L.length<=t by omega)]
  rw[e];simp
theorem Uc(hF:∀n,(Fi.getD n []).length<=T)(t:Nat):∀(l:List Sy) (a:Nat),E5 T N l->(kH Nu Fi a l).1.testBit t=(a.testBit t||nQ Nu Fi T l t)/\(kH Nu Fi a l).2=xJ Nu l:=by
 intro l
 induction l with
 |nil=>intro a _;simp[kH,nQ,uS,xJ]
 |cons s l ih=>
  intro a hl;have hs:=hl s (by simp);have hl':E5 T N l:=fun x hx=>hl x (List.mem_cons_of_mem _ hx);obtain⟨b,v⟩:=s;cases b with
  |true=>
   have hv:=hs.1 rfl;simp only at hv;simp only[kH,Bool.true_or,if_true,lZ,nQ,uS];refine⟨?_,by simp[xJ]⟩;rw[Nat.testBit_or,Nat.testBit_two_pow]
   congr 1
   rw[decide_eq_decide];omega
  |false=>
   have Ud:(lZ Fi (false,v)).testBit t=(decide (t<T)&&(Fi.getD v.toNat []).getD t false):=by
    simp only[lZ,Bool.false_eq_true,if_false];rw[Ub];exact ab5 (hF _) t
   have vC:nQ Nu Fi T ((false,v)::l) t=((decide (t<T)&&(Fi.getD v.toNat []).getD t false)||(Nu.getD v.toNat false&&nQ Nu Fi T l t)):=by
    simp only[nQ,uS];by_cases h1:(decide (t<T)&&(Fi.getD v.toNat []).getD t false)=true
    ·rw[if_pos h1,h1];simp
    ·rw[if_neg h1]
     have h1':(decide (t<T)&&(Fi.getD v.toNat []).getD t false)=false:=by simpa using h1
     rw[h1'];by_cases h2:Nu.getD v.toNat false=true
     ·rw[if_pos h2,h2];simp
     ·rw[if_neg h2]
      have h2':Nu.getD v.toNat false=false:=by simpa using h2
      rw[h2'];simp
   have Ue:xJ Nu ((false,v)::l)=(Nu.getD v.toNat false&&xJ Nu l):=by
    show (((false,v)::l).all fun s=> !s.1&&Nu.getD s.2.toNat false)=_;rw[List.all_cons];rfl
   cases hn:Nu.getD v.toNat false with
   |true=>
    have e:kH Nu Fi a ((false,v)::l)=kH Nu Fi (a|||lZ Fi (false,v)) l:=by
     rw[kH];simp only;rw[hn];simp
    obtain⟨i1,i2⟩:=ih (a|||lZ Fi (false,v)) hl';rw[e,i1,i2,vC,Ue,hn,Nat.testBit_or,Ud];simp[Bool.or_assoc]
   |false=>
    have e:kH Nu Fi a ((false,v)::l)=(a|||lZ Fi (false,v),false):=by
     rw[kH];simp only;rw[hn];simp
    rw[e,vC,Ue,hn,Nat.testBit_or,Ud];simp
theorem Uf{t:Nat}:∀{l:List Sy},E5 T N l->nQ Nu Fi T l t=true->t<=T:=by
 intro l
 induction l with
 |nil=>intro _ h;simp[nQ,uS]at h
 |cons s l ih=>
  intro hl h;have hs:=hl s (by simp);obtain⟨b,v⟩:=s;cases b with
  |true=>
   have hv:=hs.1 rfl;simp only at hv;simp only[nQ,uS,decide_eq_true_eq]at h;omega
  |false=>
   simp only[nQ,uS]at h;split at h
   ·rename_i h1
    simp only[Bool.and_eq_true,decide_eq_true_eq]at h1;omega
   ·split at h
    ·exact ih (fun x hx=>hl x (List.mem_cons_of_mem _ hx)) h
    ·cases h
end
def pI(R:List Ru)(m:Int):List Nat:=(List.range R.length).filter fun n=>decide ((R.getD n (0,[])).1=m)
def oD(R:List Ru)(Nu:List Bool)(Fi:List (List Bool))(i:It):Nat×Bool:=kH Nu Fi 0 ((aJ R i.1).drop (i.2+1))
def vZ(R:List Ru)(Nu:List Bool)(Fi:List (List Bool))(i:It)(h:Nat):Nat:=if (oD R Nu Fi i).2 then (oD R Nu Fi i).1|||h else (oD R Nu Fi i).1
def rM(T:Nat)(R:List Ru)(NL:List (List Int))(Nu:List Bool)(Fi:List (List Bool))(p:bf)(h:Nat):List (bf×Nat):=
 match (aJ R p.2.1)[p.2.2]? with
 |none=>[]
 |some s=>((toN NL T p.1 s,(p.2.1,p.2.2+1)),h)::(if s.1 then [] else (pI R s.2).map fun r=>((p.1,(r,0)),vZ R Nu Fi p.2 h))
structure LS where
 lk:bf->Nat
 O:List bf
 c:Nat
def fV(g:bf×Nat)(st:LS):LS:=if st.lk g.1|||g.2=st.lk g.1 then st else ⟨fun s=>if s=g.1 then st.lk g.1|||g.2 else st.lk s,st.O++[g.1],st.c+1⟩
def nA(L:List (bf×Nat))(st:LS):LS:=L.foldl (fun st g=>fV g st) st
def pJ(T:Nat)(R:List Ru)(NL:List (List Int))(Nu:List Bool)(Fi:List (List Bool))(p:bf)(st:LS):LS:=nA (rM T R NL Nu Fi p (st.lk p)) st
def wh(OL:List (List It)):List bf:=(List.range OL.length).flatMap fun k=>(OL.getD k []).map fun i=>(k,i)
theorem Nw{OL:List (List It)}{s:bf}:s∈wh OL↔iP OL s:=by
 unfold wh iP;rw[List.mem_flatMap];constructor
 ·rintro ⟨k,hk,hs⟩
  obtain⟨i,hi,rfl⟩:=List.mem_map.1 hs;exact⟨List.mem_range.1 hk,hi⟩
 ·rintro ⟨h1,h2⟩
  exact⟨s.1,List.mem_range.2 h1,List.mem_map.2 ⟨s.2,h2,rfl⟩⟩
def zC(OL:List (List It))(T:Nat):List (bf×Nat):=(wh OL).flatMap fun s=>(List.range (T+1)).map fun t=>(s,t)
theorem ab6{OL:List (List It)}{T:Nat}{s:bf}{t:Nat}(hs:iP OL s)(ht:t<=T):(s,t)∈zC OL T:=by
 unfold zC;rw[List.mem_flatMap];exact⟨s,Nw.2 hs,List.mem_map.2 ⟨t,List.mem_range.2 (by omega),rfl⟩⟩
def E8(OL:List (List It))(T:Nat)(lk:bf->Nat):Nat:=((zC OL T).filter fun q=> !(lk q.1).testBit q.2).length
def jP(OL:List (List It))(T:Nat)(st:LS):Nat:=2*E8 OL T st.lk+st.O.length+st.c
section
variable{T N:Nat}{R:List Ru}{OL:List (List It)}{NL:List (List Int)}{Ls:List aX}{Nu:List Bool}{Fi:List (List Bool)}
def E9(T:Nat)(R:List Ru)(Nu:List Bool)(Fi:List (List Bool))(NL:List (List Int))(Ls:List aX)(s:bf)(t:Nat):Prop:=t<=T/\vY T R Nu Fi NL Ls s.1 s.2 t
def OkG(T:Nat)(R:List Ru)(Nu:List Bool)(Fi:List (List Bool))(NL:List (List Int))(Ls:List aX)(OL:List (List It))(g:bf×Nat):Prop:=iP OL g.1/\∀t,g.2.testBit t=true->E9 T R Nu Fi NL Ls g.1 t
theorem Ug(A:kG T N R OL NL Ls)(hF:∀n,(Fi.getD n []).length<=T){p:bf}(hp:iP OL p){h:Nat}(hh:∀t,h.testBit t=true->E9 T R Nu Fi NL Ls p t):∀g∈rM T R NL Nu Fi p h,OkG T R Nu Fi NL Ls OL g:=by
 intro g hg;unfold rM at hg;cases hs:(aJ R p.2.1)[p.2.2]? with
 |none=>rw[hs]at hg;cases hg
 |some s=>
  rw[hs]at hg;simp only[List.mem_cons]at hg;rcases hg with rfl|hg
  ·obtain⟨h1,h2⟩:=A.on hp hs
   exact⟨h2,fun t ht=>⟨(hh t ht).1,lC.on (i:=p.2) (hh t ht).2 hs h1⟩⟩
  ·obtain⟨b,v⟩:=s
   cases b with
   |true=>simp at hg
   |false=>
    simp only[Bool.false_eq_true,if_false]at hg;obtain⟨r,hr,rfl⟩:=List.mem_map.1 hg;unfold pI at hr;rw[List.mem_filter,List.mem_range]at hr;have hr2:(R.getD r (0,[])).1=v:=by simpa using hr.2
    refine⟨A.close hp hs hr.1 hr2,fun t ht=> ?_⟩;have hin:E5 T N ((aJ R p.2.1).drop (p.2.2+1)):=fun x hx=>A.sym _ (A.item hp).2.1 x (List.mem_of_mem_drop hx);obtain⟨b1,b2⟩:=Uc (Nu:=Nu) hF t _ 0 hin
    have rJ:nQ Nu Fi T ((aJ R p.2.1).drop (p.2.2+1)) t=true->E9 T R Nu Fi NL Ls (p.1,(r,0)) t:=fun hb=>
     ⟨Uf hin hb,lC.begins (i:=p.2) (by rw[<-A.lD.len];exact hp.1) (A.item hp).1 hs hr.1 hr2 (Uf hin hb) hb⟩
    unfold vZ oD at ht;simp only[Nat.zero_testBit,Bool.false_or]at b1;split at ht
    ·rename_i hn
     simp only[Nat.testBit_or,b1,Bool.or_eq_true]at ht;rcases ht with ht|ht
     ·exact rJ ht
     ·exact⟨(hh t ht).1,lC.nothing (i:=p.2) (hh t ht).2 hs hr.1 hr2 (by rw[<-b2];exact hn)⟩
    ·simp only[b1]at ht
     exact rJ ht
structure xK(T:Nat)(R:List Ru)(OL:List (List It))(NL:List (List Int))(Ls:List aX)(Nu:List Bool)(Fi:List (List Bool))(p:bf)(h:Nat)(dn:List (bf×Nat))(st:LS):Prop where
 snd:∀s t,(st.lk s).testBit t=true->iP OL s/\E9 T R Nu Fi NL Ls s t
 opn:∀s∈st.O,iP OL s
 cls:∀s,iP OL s->s≠p->s∈st.O\/∀g∈rM T R NL Nu Fi s (st.lk s),st.lk g.1|||g.2=st.lk g.1
 self:st.lk p=h\/p∈st.O
 zD:∀g∈dn,st.lk g.1|||g.2=st.lk g.1
structure oF(T:Nat)(R:List Ru)(OL:List (List It))(NL:List (List Int))(Ls:List aX)(Nu:List Bool)(Fi:List (List Bool))(st:LS):Prop where
 snd:∀s t,(st.lk s).testBit t=true->iP OL s/\E9 T R Nu Fi NL Ls s t
 opn:∀s∈st.O,iP OL s
 cls:∀s,iP OL s->s∈st.O\/∀g∈rM T R NL Nu Fi s (st.lk s),st.lk g.1|||g.2=st.lk g.1
theorem ab7{a m x:Nat}(h:a|||m=a):(a|||x)|||m=a|||x:=by
 rw[Nat.or_assoc,Nat.or_comm x m,<-Nat.or_assoc,h]
theorem xK.give{p:bf}{h:Nat}{dn:List (bf×Nat)}{st:LS}(H:xK T R OL NL Ls Nu Fi p h dn st){g:bf×Nat}(hg:OkG T R Nu Fi NL Ls OL g):xK T R OL NL Ls Nu Fi p h (dn++[g]) (fV g st):=by
 unfold fV;split
 ·rename_i he
  exact⟨H.snd,H.opn,H.cls,H.self,fun g' hg'=>by
   rcases List.mem_append.1 hg' with hg'|hg'
   ·exact H.zD g' hg'
   ·simp only[List.mem_singleton]at hg';subst hg';exact he⟩
 ·have up:∀(a:bf) (m:Nat),st.lk a|||m=st.lk a->(if a=g.1 then st.lk g.1|||g.2 else st.lk a)|||m=(if a=g.1 then st.lk g.1|||g.2 else st.lk a):=fun a m hm=>by
   by_cases ha:a=g.1
   ·subst ha;rw[if_pos rfl];exact ab7 hm
   ·rw[if_neg ha];exact hm
  refine⟨fun s t ht=> ?_,fun s hs=> ?_,fun s hs hne=> ?_,?_,fun g' hg'=> ?_⟩
  ·simp only at ht
   by_cases e:s=g.1
   ·subst e
    simp only[if_true,Nat.testBit_or,Bool.or_eq_true]at ht;rcases ht with ht|ht
    ·exact H.snd _ t ht
    ·exact⟨hg.1,hg.2 t ht⟩
   ·rw[if_neg e]at ht
    exact H.snd s t ht
  ·rcases List.mem_append.1 hs with hs|hs
   ·exact H.opn s hs
   ·simp only[List.mem_singleton]at hs;subst hs;exact hg.1
  ·by_cases e:s=g.1
   ·exact .inl (by subst e;simp)
   ·rcases H.cls s hs hne with h1|h1
    ·exact .inl (List.mem_append_left _ h1)
    ·refine .inr fun g' hg'=> ?_
     simp only[if_neg e]at hg';exact up g'.1 g'.2 (h1 g' hg')
  ·rcases H.self with h1|h1
   ·by_cases e:p=g.1
    ·exact .inr (by subst e;simp)
    ·exact .inl (by simp only;rw[if_neg e];exact h1)
   ·exact .inr (List.mem_append_left _ h1)
  ·rcases List.mem_append.1 hg' with hg'|hg'
   ·exact up g'.1 g'.2 (H.zD g' hg')
   ·simp only[List.mem_singleton]at hg'
    subst hg';simp only[if_true];rw[Nat.or_assoc,Nat.or_self]
theorem xK.gives{p:bf}{h:Nat}:∀(L dn:List (bf×Nat)) (st:LS),xK T R OL NL Ls Nu Fi p h dn st->(∀g∈L,OkG T R Nu Fi NL Ls OL g)->xK T R OL NL Ls Nu Fi p h (dn++L) (nA L st):=by
 intro L
 induction L with
 |nil=>intro dn st H _;simpa [nA] using H
 |cons g L ih=>
  intro dn st H hL;have:=ih (dn++[g]) (fV g st) (H.give (hL g (by simp))) (fun g' hg'=>hL g' (List.mem_cons_of_mem _ hg'));rw[List.append_assoc]at this;exact this
theorem oF.look(A:kG T N R OL NL Ls)(hF:∀n,(Fi.getD n []).length<=T){lk:bf->Nat}{O:List bf}{p:bf}{c:Nat}(H:oF T R OL NL Ls Nu Fi ⟨lk,O++[p],c⟩):oF T R OL NL Ls Nu Fi (pJ T R NL Nu Fi p ⟨lk,O,c⟩):=by
 have hp:iP OL p:=H.opn p (by simp)
 have H0:xK T R OL NL Ls Nu Fi p (lk p) [] ⟨lk,O,c⟩:=⟨H.snd,fun s hs=>H.opn s (List.mem_append_left _ hs),fun s hs hne=>by
  rcases H.cls s hs with h1|h1
  ·rcases List.mem_append.1 h1 with h1|h1
   ·exact .inl h1
   ·simp only[List.mem_singleton]at h1;exact absurd h1 hne
  ·exact .inr h1,.inl rfl,fun g hg=>by cases hg⟩
 have H1:=H0.gives _ _ _ (Ug A hF hp fun t ht=>(H.snd p t ht).2);refine⟨H1.snd,H1.opn,fun s hs=> ?_⟩;by_cases e:s=p
 ·subst e
  rcases H1.self with h1|h1
  ·refine .inr fun g hg=> ?_
   have h2:(pJ T R NL Nu Fi s ⟨lk,O,c⟩).lk s=lk s:=h1;rw[h2]at hg;exact H1.zD g (by simpa using hg)
  ·exact .inl h1
 ·exact H1.cls s hs e
theorem oF.give{st:LS}(H:oF T R OL NL Ls Nu Fi st){g:bf×Nat}(hg:OkG T R Nu Fi NL Ls OL g):oF T R OL NL Ls Nu Fi (fV g st):=by
 have key:∀p,xK T R OL NL Ls Nu Fi p (st.lk p) [] st:=fun p=>⟨H.snd,H.opn,fun s hs _=>H.cls s hs,.inl rfl,fun g hg=>by cases hg⟩;have h1:=(key g.1).give hg;refine⟨h1.snd,h1.opn,fun s hs=> ?_⟩;by_cases e:s=g.1
 ·
  unfold fV;split
  ·exact H.cls s hs
  ·exact .inl (by subst e;simp)
 ·exact h1.cls s hs e
theorem ab8(OL:List (List It)):oF T R OL NL Ls Nu Fi ⟨fun _=>0,wh OL,0⟩:=
 ⟨fun s t h=>by simp at h,fun s hs=>Nw.1 hs,fun s hs=> .inl (Nw.2 hs)⟩
theorem ab9{g:bf×Nat}{st:LS}{s:bf}{t:Nat}(h:(st.lk s).testBit t=true):((fV g st).lk s).testBit t=true:=by
 unfold fV;split
 ·exact h
 ·simp only
  by_cases e:s=g.1
  ·subst e;rw[if_pos rfl,Nat.testBit_or,h];rfl
  ·rw[if_neg e];exact h
theorem acd{s:bf}{t:Nat}:∀(L:List (bf×Nat)) (st:LS),(st.lk s).testBit t=true->((nA L st).lk s).testBit t=true:=by
 intro L
 induction L with
 |nil=>intro st h;exact h
 |cons g L ih=>intro st h;exact ih _ (ab9 h)
theorem Uh{g:bf×Nat}{st:LS}(hg:iP OL g.1/\∀t,g.2.testBit t=true->t<=T):jP OL T (fV g st)<=jP OL T st:=by
 unfold fV;split
 ·exact Nat.le_refl _
 ·rename_i hne
  obtain⟨t,ht⟩:∃t,(st.lk g.1|||g.2).testBit t≠(st.lk g.1).testBit t:=Classical.byContradiction fun hn=>hne (Nat.eq_of_testBit_eq fun t=>Classical.byContradiction fun h=>hn ⟨t,h⟩);rw[Nat.testBit_or]at ht;have h1:(st.lk g.1).testBit t=false:=by cases h:(st.lk g.1).testBit t<;>simp[h]at ht⊢
  have h2:g.2.testBit t=true:=by rw[h1]at ht;cases h:g.2.testBit t<;>simp[h]at ht⊢
  have hlt:E8 OL T (fun s=>if s=g.1 then st.lk g.1|||g.2 else st.lk s)<E8 OL T st.lk:=by
   unfold E8;refine(filter_lt _ _ (fun q hq=> ?_) (zC OL T)).2 ⟨(g.1,t),ab6 hg.1 (hg.2 t h2),?_,?_⟩
   ·by_cases e:q.1=g.1
    ·simp only[e,if_true,Nat.testBit_or]at hq
     rw[e];cases h:(st.lk g.1).testBit q.2<;>simp[h]at hq⊢
    ·simp only[if_neg e]at hq;exact hq
   ·simp[h1]
   ·simp[Nat.testBit_or,h2]
  unfold jP;simp only[List.length_append,List.length_cons,List.length_nil];omega
theorem ace:∀(L:List (bf×Nat)) (st:LS),(∀g∈L,iP OL g.1/\∀t,g.2.testBit t=true->t<=T)->jP OL T (nA L st)<=jP OL T st:=by
 intro L
 induction L with
 |nil=>intro st _;exact Nat.le_refl _
 |cons g L ih=>intro st h;exact Nat.le_trans (ih _ fun g' hg'=>h g' (List.mem_cons_of_mem _ hg')) (Uh (h g (by simp)))
theorem acf(A:kG T N R OL NL Ls)(hF:∀n,(Fi.getD n []).length<=T){lk:bf->Nat}{O:List bf}{p:bf}{c:Nat}(H:oF T R OL NL Ls Nu Fi ⟨lk,O++[p],c⟩):jP OL T (pJ T R NL Nu Fi p ⟨lk,O,c⟩)<jP OL T ⟨lk,O++[p],c⟩:=by
 have h1:=ace (OL:=OL) (T:=T) (rM T R NL Nu Fi p (lk p)) ⟨lk,O,c⟩ fun g hg=>by
  obtain⟨a,b⟩:=Ug A hF (H.opn p (by simp)) (fun t ht=>(H.snd p t ht).2) g hg;exact⟨a,fun t ht=>(b t ht).1⟩
 have h2:jP OL T ⟨lk,O++[p],c⟩=jP OL T ⟨lk,O,c⟩+1:=by
  unfold jP;simp only[List.length_append,List.length_cons,List.length_nil];omega
 show jP OL T (nA (rM T R NL Nu Fi p (lk p)) ⟨lk,O,c⟩)<_;omega
theorem or_bit{a m t:Nat}(h:a|||m=a)(hm:m.testBit t=true):a.testBit t=true:=by
 rw[<-h,Nat.testBit_or,hm,Bool.or_true]
theorem acg(A:kG T N R OL NL Ls)(hF:∀n,(Fi.getD n []).length<=T){st:LS}(H:oF T R OL NL Ls Nu Fi st)(hO:st.O=[])(h0:(st.lk (0,(R.length,0))).testBit T=true){k:Nat}{i:It}{t:Nat}(hl:vY T R Nu Fi NL Ls k i t):iP OL (k,i)/\(st.lk (k,i)).testBit t=true:=by
 have cls:∀s,iP OL s->∀g∈rM T R NL Nu Fi s (st.lk s),st.lk g.1|||g.2=st.lk g.1:=fun s hs=>by
  rcases H.cls s hs with h|h
  ·rw[hO]at h;cases h
  ·exact h
 have bits:∀{k:Nat} {i:It},iP OL (k,i)->∀(t:Nat),(oD R Nu Fi i).1.testBit t=nQ Nu Fi T ((aJ R i.1).drop (i.2+1)) t/\(oD R Nu Fi i).2=xJ Nu ((aJ R i.1).drop (i.2+1)):=fun {k i} hi t=>by
  have hin:E5 T N ((aJ R i.1).drop (i.2+1)):=fun x hx=>A.sym _ (A.item hi).2.1 x (List.mem_of_mem_drop hx);obtain⟨b1,b2⟩:=Uc (Nu:=Nu) hF t _ 0 hin;simp only[Nat.zero_testBit,Bool.false_or]at b1;exact⟨b1,b2⟩
 have rule:∀{k:Nat} {i:It} {m:Int} {n:Nat},iP OL (k,i)->(aJ R i.1)[i.2]?=some (false,m)->n<R.length->(R.getD n (0,[])).1=m->st.lk (k,(n,0))|||vZ R Nu Fi i (st.lk (k,i))=st.lk (k,(n,0)):=fun {k i m n} hi h1 h2 h3=>by
  refine cls (k,i) hi ((k,(n,0)),vZ R Nu Fi i (st.lk (k,i))) ?_;unfold rM;simp only;rw[h1];simp only[Bool.false_eq_true,if_false];refine List.mem_cons_of_mem _ (List.mem_map.2 ⟨n,?_,rfl⟩);unfold pI;rw[List.mem_filter,List.mem_range];exact⟨h2,by simpa using h3⟩
 induction hl with
 |start=>exact⟨A.zero,h0⟩
 |on _ h1 h2 ih=>
  rename_i k i t s n _;obtain⟨a1,a2⟩:=ih;obtain⟨o1,o2⟩:=A.on a1 h1
  have et:toN NL T k s=n:=by
   simp only at o1;rw[h2]at o1;omega
  have hg:=cls (k,i) a1 ((toN NL T k s,(i.1,i.2+1)),st.lk (k,i)) (by unfold rM;simp only;rw[h1];simp);simp only[et]at hg o2;exact⟨o2,or_bit hg a2⟩
 |begins hk hi h1 h2 h3 ht h4=>
  rename_i k i t m n;have a1:iP OL (k,i):=⟨by rw[A.lD.len];exact hk,((A.lD.iZ k (by rw[A.lD.len];exact hk)).mem i).2 hi⟩;refine⟨A.close a1 h1 h2 h3,or_bit (rule a1 h1 h2 h3) ?_⟩;unfold vZ;split
  ·rw[Nat.testBit_or,(bits a1 t).1,h4];rfl
  ·rw[(bits a1 t).1,h4]
 |nothing _ h1 h2 h3 h4 ih=>
  rename_i k i t m n _;obtain⟨a1,a2⟩:=ih;refine⟨A.close a1 h1 h2 h3,or_bit (rule a1 h1 h2 h3) ?_⟩;unfold vZ;rw[if_pos (by rw[(bits a1 t).2];exact h4),Nat.testBit_or,a2,Bool.or_true]
theorem ach(A:kG T N R OL NL Ls)(hF:∀n,(Fi.getD n []).length<=T){st:LS}(H:oF T R OL NL Ls Nu Fi st)(hO:st.O=[])(h0:(st.lk (0,(R.length,0))).testBit T=true)(k:Nat)(i:It)(t:Nat):(st.lk (k,i)).testBit t=true↔vY T R Nu Fi NL Ls k i t:=
 ⟨fun h=>(H.snd _ t h).2.2,fun h=>(acg A hF H hO h0 h).2⟩
end
end Go.Proofs.YtpkmpkphfflpjaaGreat
namespace Go.Proofs.YtpkmpkphfflpjaaGreat
open Go.RowKit
theorem Tryz.infoInt:(Tryz.prog.info? 3).map (fun i=>(i.zero,i.size,i.bytes))=some (some (.int .i64 0),1,8):=by kernel_rfl
theorem aci(n:Nat)(hn:n<=1000000)(u:World):(Instr.makeSlice 27 (.int .i64 n) (.int .i64 n)).run Tryz.prog u= .ok (.slice (some ⟨u.heap.size,0,none⟩) n n) (u.alloc (.cells (madeCells #[.int .i64 0] n) 3)):=by
 obtain⟨i0,hi,hz0,hz1,hz2⟩:=info_parts Tryz.infoInt;have h:=run_make (P:=Tryz.prog) u 27 3 i0 (.int .i64 0) Tryz.underlying27 hi hz0 .i64 .i64 n n (by omega) (Int.le_refl _) (by rw[hz2];omega) (by omega);simpa [hz1,Value.cells] using h
def iF(w:World)(B g N:Nat)(O:List Int):Prop:=w.ownsRow B 3 1 (.slice (some ⟨g,0,none⟩) N N) N (O.map (Value.int .i64))
section
variable{w w':World}{B g N:Nat}{O:List Int}
theorem iF.len(h:iF w B g N O):O.length=N:=by
 have:(O.map (Value.int .i64)).length=N*1:=h.1;simpa using this
theorem iF.cell(h:iF w B g N O){m:Nat}(hm:m<N):w.cell? ⟨g,m,none⟩=some (.int .i64 (O.getD m 0))/\w.frozen? ⟨g,m,none⟩=false:=by
 have hl:=h.len;refine⟨?_,World.ownsRow.frozenAt h m⟩;rw[World.ownsRow.cellAt h m (by omega)];simp[List.getD,show m<O.length by omega]
theorem iF.set(h:iF w B g N O)(m:Nat)(v:Int):iF (w.setCell ⟨g,m,none⟩ (.int .i64 v)) B g N (O.set m v):=by
 have:=(World.ownsRow.stored h m (.int .i64 v)).1;unfold iF
 rwa [List.map_set]
theorem iF.below(h:iF w B g N O)(hb:Below w.heap.size w w'):iF w' B g N O:=own_below h hb fun k hk=>(World.ownsRow.lt h k hk).2
theorem iF.mono{B':Nat}(h:iF w B g N O)(hB:B'<=B):iF w B' g N O:=jE h hB
theorem iF.list(h:iF w B g N O):aH w w.heap.size (.slice (some ⟨g,0,none⟩) N N) O:=by
 have hl:=h.len;refine⟨⟨_,_,by rw[hl]⟩,fun i hi=>⟨g,0,N,by rw[hl],?_,?_⟩⟩
 ·exact World.block_lt_of_cell? w _ (h.cell (m:=i) (by omega)).1
 ·rw[Nat.zero_add]
  exact(h.cell (by omega)).1
end
theorem acj(w:World){N:Nat}(hN:N<=maxLen):iF (w.alloc (.cells (madeCells #[.int .i64 0] N) 3)) w.heap.size w.heap.size N (List.replicate N 0):=by
 have:=World.ownsRow_lit (base:=w.heap.size) (e:=3) (size:=1) w (madeCells #[.int .i64 0] N) N (Nat.le_refl _) hN (by simp[size_madeCells]);rw[toList_madeCells_one]at this;unfold iF;simpa using this
end Go.Proofs.YtpkmpkphfflpjaaGreat
