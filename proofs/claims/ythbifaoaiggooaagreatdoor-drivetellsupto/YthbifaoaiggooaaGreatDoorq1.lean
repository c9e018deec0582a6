import Derived.Test.YthbifaoaiggooaaGreatDoorq0
import Derived.StillTailTactics
import Derived.Deep.RegionHeld3
set_option maxHeartbeats 3200000
set_option maxRecDepth 100000
namespace Go.Proofs.YthbifaoaiggooaaGreatDoor
open Go.RowKit
theorem xq{P:Program}{id:Nat}{Q:Exit->Act->World->Prop}{a:Act}{w:World}{l:List Oper}(n:Nat)(hm:P.follows .mixedOrders=true)(hB:Region.lexTailB .any l.toArray n=true)
 (h:wpStill P l.toArray w.drew (λa'=>wpList P l.toArray Q (l.drop n) a' w.drew) (l.take n) a):(Code.region id l.toArray true).wp P Q a w:=wp_region_still_tail n hm hB h
structure Kept(K:Nat->Prop)(w w':World):Prop where
 os:w'.os=w.os
 tape:w'.tape=w.tape
 output:w'.output=w.output
 size:w.heap.size<=w'.heap.size
 block:∀k,k<w.heap.size->¬K k->w'.heap[k]?=w.heap[k]?
section
variable{K:Nat->Prop}{a w w':World}
theorem Kept.refl(K:Nat->Prop)(w:World):Kept K w w:=⟨rfl,rfl,rfl,ah _,λ_ _ _=>rfl⟩
theorem Kept.trans{b c:World}(h:Kept K a b)(k:Kept K b c):Kept K a c:=
 ⟨k.os.trans h.os,k.tape.trans h.tape,k.output.trans h.output,aZ h.size k.size,λi hi hK=>(k.block i (jg hi h.size) hK).trans (h.block i hi hK)⟩
theorem Kept.drew(h:Kept K a w):Kept K a w.drew:=⟨h.os,h.tape,h.output,h.size,h.block⟩
theorem Kept.dI(h:Below w.heap.size w w'):Kept K w w':=⟨h.os,h.tape,h.output,h.size,λk hk _=>h.block k hk⟩
theorem Kept.alloc(h:Kept K a w)(o:Obj):Kept K a (w.alloc o):=h.trans (Kept.dI ((ai _ _).alloc (ah _) o))
theorem Kept.setCell(h:Kept K a w){p:Addr}(hp:K p.block)(u:Value):Kept K a (w.setCell p u):=
 h.trans ⟨rfl,rfl,rfl,by simp[World.setCell],λk _ hK=>gm _ _ _ _ (λe=>hK (e▸hp))⟩
theorem Kept.below(h:Kept K a w){B:Nat}(hB:∀b,K b->B<=b)(hs:B<=a.heap.size):Below B a w:=
 ⟨h.os,h.tape,h.output,h.size,λk hk=>h.block k (by omega) (λe=>by have:=hB k e;omega)⟩
theorem Kept.cell(h:Kept K w w'){p:Addr}{v:Value}(hp:¬K p.block)(hc:w.cell? p=some v):w'.cell? p=some v:=
 (pI (w:=w) (h.block p.block (aQ w _ hc) hp)).trans hc
theorem Kept.frozen(h:Kept K w w'){p:Addr}(hp:¬K p.block)(hs:p.block<w.heap.size):w'.frozen? p=w.frozen? p:=
 World.frozen?_of_block (w:=w) (h.block p.block hs hp)
end
def bf{α:Type}(n:Nat)(f:Nat->α->α)(x:α):α:=
 match n with
 |0=>x
 |k+1=>f k (bf k f x)
theorem qz{α:Type}(P:Nat->α->Prop){n:Nat}{f:Nat->α->α}{x:α}(h0:P 0 x)(hs:∀i,i<n->∀y,P i y->P (i+1) (f i y)):P n (bf n f x):=by
 induction n with
 |zero=>exact h0
 |succ n ih=>exact hs n (Nat.lt_succ_self n) _ (ih λi hi=>hs i (Nat.lt_succ_of_lt hi))
structure eP(ι:Type) where
 V:ι->Value
 dom:ι->Option Nat
section
variable{ι:Type}
def eP.P(c:eP ι)(X:ι->List Bool)(i:ι):Option Row:=(c.dom i).map λn=>⟨c.V i,4,1,n,(X i).map Value.bool⟩
def eP.K(c:eP ι)(b:Nat):Prop:=∃i n,c.dom i=some n/\(c.V i).ownBlock=some b
def bit(X:ι->List Bool)(i:ι)(m:Nat):Bool:=(X i).getD m false
def bH[DecidableEq ι](X:ι->List Bool)(i:ι)(m:Nat)(v:Bool):ι->List Bool:=λj=>if j=i then (X i).set m v else X j
def Bt(w:World)(B:Nat)(c:eP ι)(X:ι->List Bool):Prop:=aA w B (c.P X)
variable{w:World}{B:Nat}{c:eP ι}{X:ι->List Bool}{i:ι}{n:Nat}
theorem eP.BU(hd:c.dom i=some n):c.P X i=some ⟨c.V i,4,1,n,(X i).map Value.bool⟩:=by simp[eP.P,hd]
theorem Bt.own(h:Bt w B c X)(hd:c.dom i=some n):w.ownsRow B 4 1 (c.V i) n ((X i).map Value.bool):=aA.own h i _ (eP.BU hd)
theorem Bt.len(h:Bt w B c X)(hd:c.dom i=some n):(X i).length=n:=by simpa using (h.own hd).1
theorem Bt.slice(h:Bt w B c X)(hd:c.dom i=some n):∃a cap,c.V i= .slice a n cap:=cO (h.own hd)
theorem Bt.form(h:Bt w B c X)(hd:c.dom i=some n)(hn:0<n):∃g cap,c.V i= .slice (some ⟨g,0,none⟩) n cap/\B<=g/\g<w.heap.size:=(h.own hd).form hn
theorem Bt.cell(h:Bt w B c X)(hd:c.dom i=some n){g cap m:Nat}(hv:c.V i= .slice (some ⟨g,0,none⟩) n cap)(hm:m<n):
 w.cell? ⟨g,m,none⟩=some (.bool (bit X i m))/\w.frozen? ⟨g,m,none⟩=false:=by
 have hl:=h.len hd;have ho:=h.own hd;rw[hv]at ho;refine⟨?_,ho.frozenAt m⟩;rw[ho.cellAt m (by omega)];simp[bit,List.getD,show m<(X i).length by omega]
theorem Bt.alloc(h:Bt w B c X)(o:Obj):Bt (w.alloc o) B c X:=aA.alloc h o
theorem Bt.drew(h:Bt w B c X):Bt w.drew B c X:=aA.drew h
theorem Bt.below(h:Bt w B c X){w':World}(hb:Below w.heap.size w w'):Bt w' B c X:=aA.below h hb (ah _)
theorem Bt.ge(h:Bt w B c X){b:Nat}(hK:c.K b):B<=b:=by
 obtain⟨i,n,hd,hb⟩:=hK;exact((h.own hd).lt b hb).1
theorem Bt.lt(h:Bt w B c X){b:Nat}(hK:c.K b):b<w.heap.size:=by
 obtain⟨i,n,hd,hb⟩:=hK;exact((h.own hd).lt b hb).2
theorem Bt.jD(h:Bt w B c X){b:Nat}(hb:w.heap.size<=b):¬c.K b:=λhK=>by have:=h.lt hK;omega
theorem eP.Ny(hd:c.dom i=some n){g cap:Nat}(hv:c.V i= .slice (some ⟨g,0,none⟩) n cap):c.K g:=⟨i,n,hd,by rw[hv];rfl⟩
theorem Bt.apart(h:Bt w B c X){j:ι}{k:Nat}(hij:i≠j)(hd:c.dom i=some n)(hd':c.dom j=some k){g g' cap cap':Nat}(hv:c.V i= .slice (some ⟨g,0,none⟩) n cap)(hv':c.V j= .slice (some ⟨g',0,none⟩) k cap'):g≠g':=λe=>
 aA.apart h i j _ _ hij (eP.BU hd) (eP.BU hd') g (by rw[hv];rfl) (by rw[hv',e];rfl)
variable[DecidableEq ι]
theorem Bt.set(h:Bt w B c X)(hd:c.dom i=some n){g cap:Nat}(hv:c.V i= .slice (some ⟨g,0,none⟩) n cap)(m:Nat)(v:Bool):Bt (w.setCell ⟨g,m,none⟩ (.bool v)) B c (bH X i m v):=by
 have:=aA.store h (i:=i) (g:=g) (n:=n) (cap:=cap) (e:=4) (size:=1) (xs:=(X i).map Value.bool) (by rw[eP.BU hd,hv]) m (.bool v)
 have e:upd (c.P X) i ⟨.slice (some ⟨g,0,none⟩) n cap,4,1,n,((X i).map Value.bool).set m (.bool v)⟩=c.P (bH X i m v):=by
  funext j
  by_cases hj:j=i
  ·subst hj
   simp[upd,eP.P,hd,bH,hv,List.map_set]
  ·simp[upd,eP.P,bH,hj]
 show aA _ _ _
 rwa [e]at this
omit [DecidableEq ι] in
theorem Nz{m:Nat}(h:bit X i m=true):m<(X i).length:=by
 unfold bit at h;by_cases hm:m<(X i).length
 ·exact hm
 ·simp[List.getD,List.getElem?_eq_none (show (X i).length<=m by omega)]at h
theorem jE{j:ι}{m q:Nat}{v:Bool}(hm:m<(X i).length):bit (bH X i m v) j q=if j=i/\q=m then v else bit X j q:=by
 unfold bit bH;by_cases hj:j=i
 ·subst hj
  simp only[bQ,true_and];by_cases hq:q=m
  ·subst hq;simp[List.getD,hm]
  ·rw[aj hq];simp[List.getD,List.getElem?_set_ne (λh=>hq h.symm)]
 ·simp[hj]
theorem vw{j:ι}{m:Nat}{v:Bool}:(bH X i m v j).length=(X j).length:=by
 unfold bH;by_cases hj:j=i
 ·subst hj;simp
 ·simp[hj]
end
end Go.Proofs.YthbifaoaiggooaaGreatDoor
namespace Go.Proofs.YthbifaoaiggooaaGreatDoor
section
variable{P:Program}{ops:Array Oper}{Q:Exit->Act->World->Prop}{md:Region.Mode}{S:World->Prop}
def lX(P:Program)(md:Region.Mode)(ops:Array Oper)(Q:Exit->Act->World->Prop)(S:World->Prop)(n:Nat):Nat->Array Bool->Act->World->Prop
 |0,listed,a,w=>Region.ready md ops listed=[]/\Q .normal a w
 |fuel+1,listed,a,w=>
  (Region.ready md ops listed=[]->Q .normal a w)/\
  ∀i∈Region.ready md ops listed,wpOp P ops Q i (λa' w'=>(i<n->S w')/\lX P md ops Q S n fuel (listed.setIfInBounds i true) a' w') a w
theorem FV{n:Nat}:∀(fuel:Nat) (listed:Array Bool) (a:Act) (w:World),lX P md ops Q S n fuel listed a w->wpAny P md ops Q fuel listed a w
 |0,_,_,_,h=>h
 |fuel+1,_,_,_,h=>⟨h.1,λi hi=>wpOp_mono (λa' w' h'=>FV fuel _ a' w' h'.2) (h.2 i hi)⟩
theorem FW{n i:Nat}{oi:Oper}{v:Value}(hi:ops[i]?=some oi)(hsel:∀(j:Nat) (o:Oper) cs b,ops[j]?=some o->o.op≠ .select cs b)
 (hQ:∀c a w,Q (.panic c) (a.put oi.dst v) w->Q (.panic c) a w) (hs:Region.sinkB md ops n=true) (hc:Region.chainB md ops n=true) (hn:n<ops.size) (hin:i<n):
 ∀(fuel:Nat) (listed:Array Bool) (a:Act) (w:World),HeadInv md ops n listed->
  (∀j oj,ops[j]?=some oj->j≠i->listed.getD j true=false->(∀e∈oj.after,Region.binds md e=true->e.on≠i)->oi.apart ops oj=true)->
  i∈Region.ready md ops listed->YieldsIf P ops S oi v a->S w->
  lX P md ops Q S n fuel (listed.setIfInBounds i true) (a.put oi.dst v) w->lX P md ops Q S n (fuel+1) listed a w:=by
 intro fuel
 induction fuel with
 |zero=>
  intro listed a w _ _ hr hy hS H;refine⟨λh=>(by rw[h]at hr;cases hr),λj hj=> ?_⟩;by_cases hji:j=i
  ·subst hji;exact hy.wpOp hi hS ⟨λ_=>hS,H⟩
  ·have:=ready_mono hj hji
   rw[H.1]at this;cases this
 |succ fuel ih=>
  intro listed a w inv hfree hr hy hS H;have hun:=(mem_ready.1 hr).1;refine⟨λh=>(by rw[h]at hr;cases hr),λj hj=> ?_⟩;by_cases hji:j=i
  ·subst hji;exact hy.wpOp hi hS ⟨λ_=>hS,H⟩
  ·have hjn:j<n:=by
    rcases Ac j n with h|h
    ·exact h
    ·exact absurd hj (tail_waits hs hc hn inv _ i rfl hin hun j h)
   have h1:=H.2 j (ready_mono hj hji);obtain⟨hjun,oj,hoj,hall⟩:=mem_ready.1 hj
   have hnot:∀e∈oj.after,Region.binds md e=true->e.on≠i:=λe he hb heq=>by
    have h1:=hall e he hb;rw[heq,getD_both hun]at h1;cases h1
   have h2:=wpOp_putIf hoj (hfree j oj hoj hji hjun hnot) (λcs b=>hsel i oi cs b hi) (λcs b=>hsel j oj cs b hoj) hQ hy h1
   have hfree':∀k ok,ops[k]?=some ok->k≠i->(listed.setIfInBounds j true).getD k true=false->
    (∀e∈ok.after,Region.binds md e=true->e.on≠i)->oi.apart ops ok=true:=λk ok hk hki hun hno=>by
    refine hfree k ok hk hki ?_ hno;by_cases hjk:j=k
    ·subst hjk;exact hjun
    ·rw[getD_set_ne true hjk]at hun;exact hun
   refine wpOp_mono (λa' w' h3=>⟨h3.2.1,ih (listed.setIfInBounds j true) a' w' (inv.set hj hjn) hfree' (ready_mono hr (Ne.symm hji)) h3.1 (h3.2.1 hjn) ?_⟩) h2;rw[Array.setIfInBounds_comm _ _ hji];exact h3.2.2
def xu(P:Program)(ops:Array Oper)(S:World->Prop)(K:Act->Prop):List Oper->Act->Prop
 | [],a=>K a
 |o::l,a=> ∃v,YieldsIf P ops S o v a/\xu P ops S K l (a.put o.dst v)
theorem xu.cons{K:Act->Prop}{o:Oper}{l:List Oper}{a:Act}{v:Value}(hw:Region.wanted o (yielded ops a.tmps)=true)(hy:∀w,S w->(execOp a.eval o).run P w= .ok (.value v) w)(h:xu P ops S K l (a.put o.dst v)):xu P ops S K (o::l) a:=
 ⟨v,.inl ⟨hw,hy⟩,h⟩
def yM(P:Program)(ops:Array Oper)(Q:Exit->Act->World->Prop)(S:World->Prop)(n:Nat):Nat->List Oper->Act->World->Prop
 |_,[],a,w=>Q .normal a w
 |k,o::l,a,w=> ∀K:Act->World->Prop,Shut (∀a w,(k<n->S w)->yM P ops Q S n (k+1) l a w->K a w)->if Region.wanted o (yielded ops a.tmps)=true then Oper.wp P o a w K Q else K (a.put o.dst undef) w
theorem Sk{n:Nat}:∀(l:List Oper) (k:Nat) (listed:Array Bool) (a:Act) (w:World),(∀j,l[j]?=ops[k+j]?)->
 Region.seqB md ops l.length k listed=true->yM P ops Q S n k l a w->lX P md ops Q S n l.length listed a w
 | [],_,_,_,_,_,hB,h=>⟨by simpa [Region.seqB] using hB,h⟩
 |o::l,k,listed,a,w,hl,hB,h=>by
  have h0:ops[k]?=some o:=by simpa using (hl 0).symm
  simp only[List.length_cons,Region.seqB,bG,bX]at hB;refine⟨λh1=>(by rw[hB.1]at h1;cases h1),λi hi=> ?_⟩;rw[hB.1]at hi;have hik:i=k:=by simpa using hi
  subst hik
  have h1:=h (λa' w'=>(i<n->S w')/\lX P md ops Q S n l.length (listed.setIfInBounds i true) a' w')
   (λa' w' hS hT=>⟨hS,Sk l (i+1) _ a' w' (λj=>by have:=hl (j+1);simpa [Nat.add_assoc,Nat.add_comm 1 j] using this) hB.2 hT⟩)
  unfold wpOp;simp only[h0];split
  ·rename_i hw
   rw[au hw]at h1;exact .inl h1
  ·rename_i hw
   rw[aj hw]at h1;exact h1
theorem Sl{n m g:Nat}(hsel:Region.noSelect ops=true)(hQ:∀c a d v w,Q (.panic c) (a.put d v) w->Q (.panic c) a w)(hs:Region.sinkB md ops n=true)(hc:Region.chainB md ops n=true)(hn:n<ops.size)(hmn:m<=n){w:World}(hS:S w):
 ∀(l:List Oper) (k:Nat) (listed:Array Bool) (a:Act),(∀j,j<l.length->l[j]?=ops[k+j]?)->k+l.length=m->HeadInv md ops n listed->
 Region.lexHead md ops g l.length k listed=true->xu P ops S (λa'=> ∀listed',Region.seqB md ops g m listed'=true->lX P md ops Q S n g listed' a' w) l a->
 lX P md ops Q S n (l.length+g) listed a w
 | [],k,listed,a,_,hk,_,hB,h=>by
  have:k=m:=by simpa using hk
  subst this;simp only[List.length_nil,eO];exact h listed (by simpa [Region.lexHead] using hB)
 |o::l,k,listed,a,hl,hk,inv,hB,h=>by
  have h0:ops[k]?=some o:=by simpa using (hl 0 (by simp)).symm
  simp only[List.length_cons,Region.lexHead,bG]at hB;obtain⟨⟨hr,hf⟩,hB'⟩:=hB;have hkn:k<n:=by simp only[List.length_cons]at hk;omega
  have hr':k∈Region.ready md ops listed:=by simpa using hr
  obtain⟨v,hy,hK⟩:=h;rw[show (o::l).length+g=(l.length+g)+1 by simp only[List.length_cons];omega]
  exact FW h0 (FQ hsel) (λc a w=>hQ c a _ _ w) hs hc hn hkn _ listed a w inv (FP h0 hf) hr' hy hS
   (Sl hsel hQ hs hc hn hmn hS l (k+1) _ _ (λj hj=>by have:=hl (j+1) (by simp;omega);simpa [Nat.add_assoc,Nat.add_comm 1 j] using this) (by simp only[List.length_cons]at hk;omega) (inv.set hr' hkn) hB' hK)
def Sm(ops:Array Oper)(m n:Nat):Bool:=
 Region.noSelect ops&&decide (m<=n)&&decide (n<ops.size)&&Region.sinkB .any ops n&&Region.chainB .any ops n&&Region.lexHead .any ops (ops.size-m) m 0 (Array.replicate ops.size false)
theorem aa8{id:Nat}{a:Act}{w:World}{l:List Oper}(m n:Nat)(S:World->Prop)(hm:P.follows .mixedOrders=true)(hB:Sm l.toArray m n=true)(hS:S w.drew)
 (h:xu P l.toArray S (λa'=>yM P l.toArray (NoPanic Q) S n m (l.drop m) a' w.drew) (l.take m) a):(Code.region id l.toArray true).wp P Q a w:=by
 simp only[Sm,bG,bX]at hB;obtain⟨⟨⟨⟨⟨hsel,hmn⟩,hn⟩,hs⟩,hc⟩,hlex⟩:=hB;have hn':n<l.length:=by simpa using hn
 have htl:(l.take m).length=m:=by simp;omega
 have hdl:(l.drop m).length=l.toArray.size-m:=by simp
 have inv0:HeadInv .any l.toArray n (Array.replicate l.toArray.size false):=
  ⟨by simp,λj oj _ hl=>(by rw[getD_replicate_false]at hl;cases hl),λt _ ht=>Go.getD_in (by simpa using ht) (getD_replicate_false _ _)⟩
 have conv:∀(l':List Oper) (b:Act),xu P l.toArray S (λa'=>yM P l.toArray (NoPanic Q) S n m (l.drop m) a' w.drew) l' b->
  xu P l.toArray S (λa'=> ∀listed',Region.seqB .any l.toArray (l.toArray.size-m) m listed'=true->lX P .any l.toArray (NoPanic Q) S n (l.toArray.size-m) listed' a' w.drew) l' b:=by
  intro l'
  induction l' with
  |nil=>
   intro b hb listed' hq;have:=Sk (md:= .any) (n:=n) (l.drop m) m listed' b w.drew (λj=>by simp[List.getElem?_drop]) (by rw[hdl];exact hq) hb
   rwa [hdl]at this
  |cons o l' ih=>
   rintro b ⟨v,hy,hK⟩;exact⟨v,hy,ih _ hK⟩
 refine wp_region_noPanic (wp_region_any hm (FV (S:=S) (n:=n) _ _ _ _ ?_))
 have:=Sl (md:= .any) (g:=l.toArray.size-m) (Q:=NoPanic Q) hsel (λ_ _ _ _ _ h=>h) hs hc hn hmn hS (l.take m) 0 _ a (λj hj=>by
  have hj':j<m:=by rw[htl]at hj;exact hj
  simp[hj']) (by simpa using htl) inv0 (by rw[htl];exact hlex) (conv _ _ h)
 rw[htl,show m+(l.toArray.size-m)=l.toArray.size by simp;omega]at this;exact this
end
section
variable{P:Program}{ops:Array Oper}{Q:Exit->Act->World->Prop}{md:Region.Mode}{S:World->Prop}
def FX(md:Region.Mode)(ops:Array Oper):List Nat->Array Bool->Bool
 | [],listed=>(Region.ready md ops listed).isEmpty
 |k::ks,listed=>decide (Region.ready md ops listed=[k])&&FX md ops ks (listed.setIfInBounds k true)
def FY(md:Region.Mode)(ops:Array Oper)(ts:List Nat):List Nat->Array Bool->Bool
 | [],listed=>FX md ops ts listed
 |k::ks,listed=>(Region.ready md ops listed).contains k&&Region.free md ops listed k&&FY md ops ts ks (listed.setIfInBounds k true)
def aW(P:Program)(ops:Array Oper)(S:World->Prop)(K:Act->Prop):List Nat->Act->Prop
 | [],a=>K a
 |i::l,a=> ∃o v,ops[i]?=some o/\YieldsIf P ops S o v a/\aW P ops S K l (a.put o.dst v)
theorem aW.cons{K:Act->Prop}{i:Nat}{o:Oper}{l:List Nat}{a:Act}{v:Value}(ho:ops[i]?=some o)(hw:Region.wanted o (yielded ops a.tmps)=true)(hy:∀w,S w->(execOp a.eval o).run P w= .ok (.value v) w)(h:aW P ops S K l (a.put o.dst v)):aW P ops S K (i::l) a:=
 ⟨o,v,ho,.inl ⟨hw,hy⟩,h⟩
def fG(P:Program)(ops:Array Oper)(Q:Exit->Act->World->Prop)(S:World->Prop)(n:Nat):List Nat->Act->World->Prop
 | [],a,w=>Q .normal a w
 |k::l,a,w=> ∃o,ops[k]?=some o/\∀K:Act->World->Prop,Shut (∀a w,(k<n->S w)->fG P ops Q S n l a w->K a w)->if Region.wanted o (yielded ops a.tmps)=true then Oper.wp P o a w K Q else K (a.put o.dst undef) w
theorem fG.cons{n k:Nat}{o:Oper}{l:List Nat}{a:Act}{w:World}(ho:ops[k]?=some o)(h:∀K:Act->World->Prop,Shut (∀a w,(k<n->S w)->fG P ops Q S n l a w->K a w)->if Region.wanted o (yielded ops a.tmps)=true then Oper.wp P o a w K Q else K (a.put o.dst undef) w):fG P ops Q S n (k::l) a w:=⟨o,ho,h⟩
theorem Sn{n:Nat}:∀(l:List Nat) (listed:Array Bool) (a:Act) (w:World),FX md ops l listed=true->fG P ops Q S n l a w->lX P md ops Q S n l.length listed a w
 | [],_,_,_,hB,h=>⟨by simpa [FX] using hB,h⟩
 |k::l,listed,a,w,hB,h=>by
  simp only[FX,bG,bX]at hB;obtain⟨o,h0,h⟩:=h;refine⟨λh1=>(by rw[hB.1]at h1;cases h1),λi hi=> ?_⟩;rw[hB.1]at hi;have hik:i=k:=by simpa using hi
  subst hik
  have h1:=h (λa' w'=>(i<n->S w')/\lX P md ops Q S n l.length (listed.setIfInBounds i true) a' w')
   (λa' w' hS hT=>⟨hS,Sn l _ a' w' hB.2 hT⟩)
  unfold wpOp;simp only[h0];split
  ·rename_i hw
   rw[au hw]at h1;exact .inl h1
  ·rename_i hw
   rw[aj hw]at h1;exact h1
theorem Sq{n:Nat}{ts:List Nat}(hsel:Region.noSelect ops=true)(hQ:∀c a d v w,Q (.panic c) (a.put d v) w->Q (.panic c) a w)(hs:Region.sinkB md ops n=true)(hc:Region.chainB md ops n=true)(hn:n<ops.size){w:World}(hS:S w):
 ∀(l:List Nat) (listed:Array Bool) (a:Act),(∀i∈l,i<n)->HeadInv md ops n listed->FY md ops ts l listed=true->aW P ops S (λa'=>fG P ops Q S n ts a' w) l a->
 lX P md ops Q S n (l.length+ts.length) listed a w
 | [],listed,a,_,_,hB,h=>by
  simp only[List.length_nil,eO];exact Sn ts listed a w (by simpa [FY] using hB) h
 |k::l,listed,a,hl,inv,hB,h=>by
  simp only[FY,bG]at hB;obtain⟨⟨hr,hf⟩,hB'⟩:=hB;have hkn:=hl k (by simp);have hr':k∈Region.ready md ops listed:=by simpa using hr
  obtain⟨o,v,h0,hy,hK⟩:=h;rw[show (k::l).length+ts.length=(l.length+ts.length)+1 by simp only[List.length_cons];omega]
  exact FW h0 (FQ hsel) (λc a w=>hQ c a _ _ w) hs hc hn hkn _ listed a w inv (FP h0 hf) hr' hy hS
   (Sq hsel hQ hs hc hn hS l _ _ (λi hi=>hl i (mH _ hi)) (inv.set hr' hkn) hB' hK)
def Sr(ops:Array Oper)(hs ts:List Nat)(n:Nat):Bool:=
 Region.noSelect ops&&decide (n<ops.size)&&Region.sinkB .any ops n&&Region.chainB .any ops n&&(hs.all λi=>decide (i<n))&&decide (hs.length+ts.length=ops.size)&&FY .any ops ts hs (Array.replicate ops.size false)
theorem JW{id:Nat}{a:Act}{w:World}(hs ts:List Nat)(n:Nat)(S:World->Prop)(hm:P.follows .mixedOrders=true)(hB:Sr ops hs ts n=true)(hS:S w.drew)
 (h:aW P ops S (λa'=>fG P ops (NoPanic Q) S n ts a' w.drew) hs a):(Code.region id ops true).wp P Q a w:=by
 simp only[Sr,bG,bX,qO]at hB;obtain⟨⟨⟨⟨⟨⟨hsel,hn⟩,hsk⟩,hc⟩,hl⟩,hlen⟩,hlex⟩:=hB
 have inv0:HeadInv .any ops n (Array.replicate ops.size false):=
  ⟨by simp,λj oj _ hl=>(by rw[getD_replicate_false]at hl;cases hl),λt _ ht=>Go.getD_in (by simpa using ht) (getD_replicate_false _ _)⟩
 refine wp_region_noPanic (wp_region_any hm (FV (S:=S) (n:=n) _ _ _ _ ?_));have:=Sq (md:= .any) (Q:=NoPanic Q) hsel (λ_ _ _ _ _ h=>h) hsk hc hn hS hs _ a hl inv0 hlex h;rw[hlen]at this;exact this
end
section
variable{P:Program}{ops:Array Oper}{Q:Exit->Act->World->Prop}{md:Region.Mode}{S:World->Prop}
def DJ(P:Program)(ops:Array Oper)(Q:Exit->Act->World->Prop)(S:World->Prop)(n:Nat)(J:Act->World->Prop)(i:Nat)(a:Act)(w:World):Prop:=
 ∃o,ops.toList[i]?=some o/\∀K:Act->World->Prop,Shut (∀a w,(i<n->S w)->J a w->K a w)->if Region.wanted o (yielded ops a.tmps)=true then Oper.wp P o a w K Q else K (a.put o.dst undef) w
def qV(P:Program)(md:Region.Mode)(ops:Array Oper)(Q:Exit->Act->World->Prop)(S:World->Prop)(n:Nat):Nat->Array Bool->Act->World->Prop
 |0,listed,a,w=>Region.ready md ops listed=[]/\Q .normal a w
 |k+1,listed,a,w=>Region.ready md ops listed≠[]/\∀i∈Region.ready md ops listed,DJ P ops Q S n (qV P md ops Q S n k (listed.setIfInBounds i true)) i a w
theorem qV.one{n k i:Nat}{listed:Array Bool}{a:Act}{w:World}(hr:decide (Region.ready md ops listed=[i])=true)(h:DJ P ops Q S n (qV P md ops Q S n k (listed.setIfInBounds i true)) i a w):qV P md ops Q S n (k+1) listed a w:=by
 have hr':=wX hr;refine⟨by rw[hr'];simp,λj hj=> ?_⟩;rw[hr']at hj;have:j=i:=by simpa using hj
 subst this;exact h
theorem qV.end{n:Nat}{listed:Array Bool}{a:Act}{w:World}(hr:decide (Region.ready md ops listed=[])=true)(h:Q .normal a w):qV P md ops Q S n 0 listed a w:=⟨wX hr,h⟩
theorem Sv{n:Nat}:∀(k:Nat) (listed:Array Bool) (a:Act) (w:World),qV P md ops Q S n k listed a w->lX P md ops Q S n k listed a w
 |0,_,_,_,h=>⟨by simpa using h.1,h.2⟩
 |k+1,listed,a,w,h=>by
  refine⟨λh1=>absurd h1 h.1,λi hi=> ?_⟩;obtain⟨o,h0,h⟩:=h.2 i hi
  have h1:=h (λa' w'=>(i<n->S w')/\lX P md ops Q S n k (listed.setIfInBounds i true) a' w')
   (λa' w' hS hT=>⟨hS,Sv k _ a' w' hT⟩)
  have h0':ops[i]?=some o:=by simpa using h0
  unfold wpOp;simp only[h0'];split
  ·rename_i hw
   rw[au hw]at h1;exact .inl h1
  ·rename_i hw
   rw[aj hw]at h1;exact h1
def FZ:List Nat->Array Bool->Array Bool
 | [],listed=>listed
 |i::l,listed=>FZ l (listed.setIfInBounds i true)
def DK(md:Region.Mode)(ops:Array Oper):List Nat->Array Bool->Bool
 | [],_=>true
 |k::ks,listed=>(Region.ready md ops listed).contains k&&Region.free md ops listed k&&DK md ops ks (listed.setIfInBounds k true)
theorem Sw{n m:Nat}(hsel:Region.noSelect ops=true)(hQ:∀c a d v w,Q (.panic c) (a.put d v) w->Q (.panic c) a w)(hs:Region.sinkB md ops n=true)(hc:Region.chainB md ops n=true)(hn:n<ops.size){w:World}(hS:S w):
 ∀(l:List Nat) (listed:Array Bool) (a:Act),(∀i∈l,i<n)->HeadInv md ops n listed->DK md ops l listed=true->aW P ops S (λa'=>qV P md ops Q S n m (FZ l listed) a' w) l a->
 lX P md ops Q S n (l.length+m) listed a w
 | [],listed,a,_,_,_,h=>by
  simp only[List.length_nil,eO];exact Sv m listed a w h
 |k::l,listed,a,hl,inv,hB,h=>by
  simp only[DK,bG]at hB;obtain⟨⟨hr,hf⟩,hB'⟩:=hB;have hkn:=hl k (by simp);have hr':k∈Region.ready md ops listed:=by simpa using hr
  obtain⟨o,v,h0,hy,hK⟩:=h;rw[show (k::l).length+m=(l.length+m)+1 by simp only[List.length_cons];omega]
  exact FW h0 (FQ hsel) (λc a w=>hQ c a _ _ w) hs hc hn hkn _ listed a w inv (FP h0 hf) hr' hy hS
   (Sw hsel hQ hs hc hn hS l _ _ (λi hi=>hl i (mH _ hi)) (inv.set hr' hkn) hB' hK)
def JX(ops:Array Oper)(hs:List Nat)(m n:Nat):Bool:=
 Region.noSelect ops&&decide (n<ops.size)&&Region.sinkB .any ops n&&Region.chainB .any ops n&&(hs.all λi=>decide (i<n))&&decide (hs.length+m=ops.size)&&DK .any ops hs (Array.replicate ops.size false)
theorem aa9{id:Nat}{a:Act}{w:World}(hs:List Nat)(m n:Nat)(S:World->Prop)(hm:P.follows .mixedOrders=true)(hB:JX ops hs m n=true)(hS:S w.drew)
 (h:aW P ops S (λa'=>qV P .any ops (NoPanic Q) S n m (FZ hs (Array.replicate ops.size false)) a' w.drew) hs a):(Code.region id ops true).wp P Q a w:=by
 simp only[JX,bG,bX,qO]at hB;obtain⟨⟨⟨⟨⟨⟨hsel,hn⟩,hsk⟩,hc⟩,hl⟩,hlen⟩,hlex⟩:=hB
 have inv0:HeadInv .any ops n (Array.replicate ops.size false):=
  ⟨by simp,λj oj _ hl=>(by rw[getD_replicate_false]at hl;cases hl),λt _ ht=>Go.getD_in (by simpa using ht) (getD_replicate_false _ _)⟩
 refine wp_region_noPanic (wp_region_any hm (FV (S:=S) (n:=n) _ _ _ _ ?_));have:=Sw (md:= .any) (Q:=NoPanic Q) (m:=m) hsel (λ_ _ _ _ _ h=>h) hsk hc hn hS hs _ a hl inv0 hlex h;rw[hlen]at this;exact this
end
section
variable{P:Program}{ops:Array Oper}{Q:Exit->Act->World->Prop}{S:World->Prop}
def BV(ops:Array Oper)(n:Nat):Bool:=Region.noSelect ops&&decide (n<ops.size)&&Region.sinkB .any ops n&&Region.chainB .any ops n
def aC(P:Program)(ops:Array Oper)(Q:Exit->Act->World->Prop)(S:World->Prop)(n k:Nat)(listed:Array Bool)(a:Act)(w:World):Prop:=
 BV ops n=true->HeadInv .any ops n listed->lX P .any ops (NoPanic Q) S n k listed a w
theorem Sz{n k:Nat}{listed:Array Bool}{a:Act}{w:World}(hb:BV ops n=true)(inv:HeadInv .any ops n listed)(h0:Region.ready .any ops listed≠[])(h:∀i∈Region.ready .any ops listed,i<n/\DJ P ops (NoPanic Q) S n (aC P ops Q S n k (listed.setIfInBounds i true)) i a w):lX P .any ops (NoPanic Q) S n (k+1) listed a w:=by
 refine⟨λh1=>absurd h1 h0,λi hi=> ?_⟩;obtain⟨hin,o,ho,h⟩:=h i hi
 have h1:=h (λa' w'=>(i<n->S w')/\lX P .any ops (NoPanic Q) S n k (listed.setIfInBounds i true) a' w')
  (λa' w' hS hT=>⟨hS,hT hb (inv.set hi hin)⟩)
 have h0':ops[i]?=some o:=by simpa using ho
 unfold wpOp;simp only[h0'];split
 ·rename_i hw
  rw[au hw]at h1;exact .inl h1
 ·rename_i hw
  rw[aj hw]at h1;exact h1
theorem aC.one{n k i:Nat}{listed:Array Bool}{a:Act}{w:World}(hr:(decide (Region.ready .any ops listed=[i])&&decide (i<n))=true)(h:DJ P ops (NoPanic Q) S n (aC P ops Q S n k (listed.setIfInBounds i true)) i a w):aC P ops Q S n (k+1) listed a w:=λhb inv=>by
 simp only[bG,bX]at hr;refine Sz hb inv (by rw[hr.1];simp) λj hj=> ?_;rw[hr.1]at hj;have:j=i:=by simpa using hj
 subst this;exact⟨hr.2,h⟩
theorem aC.two{n k i i':Nat}{listed:Array Bool}{a:Act}{w:World}(hr:(decide (Region.ready .any ops listed=[i,i'])&&decide (i<n)&&decide (i'<n))=true)(h:DJ P ops (NoPanic Q) S n (aC P ops Q S n k (listed.setIfInBounds i true)) i a w)(h':DJ P ops (NoPanic Q) S n (aC P ops Q S n k (listed.setIfInBounds i' true)) i' a w):aC P ops Q S n (k+1) listed a w:=λhb inv=>by
 simp only[bG,bX]at hr;refine Sz hb inv (by rw[hr.1.1];simp) λj hj=> ?_;rw[hr.1.1]at hj;simp only[iW,wS,wY]at hj;rcases hj with rfl|rfl
 ·exact⟨hr.1.2,h⟩
 ·exact⟨hr.2,h'⟩
theorem aC.read{n k i:Nat}{o:Oper}{listed:Array Bool}{a:Act}{w:World}{v:Value}(ho:ops.toList[i]?=some o)(hr:((Region.ready .any ops listed).contains i&&Region.free .any ops listed i&&decide (i<n))=true)(hw:Region.wanted o (yielded ops a.tmps)=true)(hy:∀w,S w->(execOp a.eval o).run P w= .ok (.value v) w)(hS:S w)(h:aC P ops Q S n k (listed.setIfInBounds i true) (a.put o.dst v) w):aC P ops Q S n (k+1) listed a w:=λhb inv=>by
 have hb':=hb;simp only[BV,bG,bX]at hb';obtain⟨⟨⟨hsel,hn⟩,hsk⟩,hc⟩:=hb';simp only[bG,bX]at hr;have hi:ops[i]?=some o:=by simpa using ho
 have hmem:i∈Region.ready .any ops listed:=by simpa using hr.1.1
 obtain⟨o',v',h0,hy',hK⟩:=(aW.cons (K:=λa'=>a'=a.put o.dst v) (l:=[]) hi hw hy rfl:aW P ops S (λa'=>a'=a.put o.dst v) [i] a);rw[hi]at h0;cases h0;have hK':a.put o.dst v'=a.put o.dst v:=hK;refine FW hi (FQ hsel) (λ_ _ _ h=>h) hsk hc hn hr.2 k listed a w inv (FP hi hr.1.2) hmem hy' hS ?_;rw[hK'];exact h hb (inv.set hmem hr.2)
theorem aC.last{n i:Nat}{listed:Array Bool}{a:Act}{w:World}(hr:(decide (Region.ready .any ops listed=[i])&&decide (Region.ready .any ops (listed.setIfInBounds i true)=[]))=true)(h:∃o,ops.toList[i]?=some o/\∀K:Act->World->Prop,Shut (∀a w,(i<n->S w)->NoPanic Q .normal a w->K a w)->if Region.wanted o (yielded ops a.tmps)=true then Oper.wp P o a w K (NoPanic Q) else K (a.put o.dst undef) w):aC P ops Q S n 1 listed a w:=λ_ _=>by
 simp only[bG,bX]at hr;refine⟨λh1=>absurd h1 (by rw[hr.1];simp),λj hj=> ?_⟩;rw[hr.1]at hj;have:j=i:=by simpa using hj
 subst this;obtain⟨o,ho,h⟩:=h;have h1:=h (λa' w'=>(j<n->S w')/\lX P .any ops (NoPanic Q) S n 0 (listed.setIfInBounds j true) a' w') (λa' w' hS hT=>⟨hS,hr.2,hT⟩);have h0':ops[j]?=some o:=by simpa using ho
 unfold wpOp;simp only[h0'];split
 ·rename_i hw
  rw[au hw]at h1;exact .inl h1
 ·rename_i hw
  rw[aj hw]at h1;exact h1
theorem SA{n m:Nat}(hb:BV ops n=true){w:World}(hS:S w):
 ∀(l:List Nat) (listed:Array Bool) (a:Act),(∀i∈l,i<n)->HeadInv .any ops n listed->DK .any ops l listed=true->aW P ops S (λa'=>aC P ops Q S n m (FZ l listed) a' w) l a->
 lX P .any ops (NoPanic Q) S n (l.length+m) listed a w
 | [],listed,a,_,inv,_,h=>by
  simp only[List.length_nil,eO];exact h hb inv
 |k::l,listed,a,hl,inv,hB,h=>by
  have hb':=hb;simp only[BV,bG,bX]at hb';obtain⟨⟨⟨hsel,hn⟩,hsk⟩,hc⟩:=hb';simp only[DK,bG]at hB;obtain⟨⟨hr,hf⟩,hB'⟩:=hB;have hkn:=hl k (by simp);have hr':k∈Region.ready .any ops listed:=by simpa using hr
  obtain⟨o,v,h0,hy,hK⟩:=h;rw[show (k::l).length+m=(l.length+m)+1 by simp only[List.length_cons];omega]
  exact FW h0 (FQ hsel) (λ_ _ _ h=>h) hsk hc hn hkn _ listed a w inv (FP h0 hf) hr' hy hS
   (SA hb hS l _ _ (λi hi=>hl i (mH _ hi)) (inv.set hr' hkn) hB' hK)
theorem mK{id:Nat}{a:Act}{w:World}(hs:List Nat)(m n:Nat)(S:World->Prop)(hm:P.follows .mixedOrders=true)(hB:JX ops hs m n=true)(hS:S w.drew)
 (h:aW P ops S (λa'=>aC P ops Q S n m (FZ hs (Array.replicate ops.size false)) a' w.drew) hs a):(Code.region id ops true).wp P Q a w:=by
 simp only[JX,bG,bX,qO]at hB;obtain⟨⟨⟨⟨⟨⟨hsel,hn⟩,hsk⟩,hc⟩,hl⟩,hlen⟩,hlex⟩:=hB
 have inv0:HeadInv .any ops n (Array.replicate ops.size false):=
  ⟨by simp,λj oj _ hl=>(by rw[getD_replicate_false]at hl;cases hl),λt _ ht=>Go.getD_in (by simpa using ht) (getD_replicate_false _ _)⟩
 refine wp_region_noPanic (wp_region_any hm (FV (S:=S) (n:=n) _ _ _ _ ?_));have hb:BV ops n=true:=by simp only[BV,bG,bX];exact⟨⟨⟨hsel,hn⟩,hsk⟩,hc⟩
 have:=SA (Q:=Q) (m:=m) hb hS hs _ a hl inv0 hlex h;rw[hlen]at this;exact this
end
end Go.Proofs.YthbifaoaiggooaaGreatDoor
namespace Go.Proofs.YthbifaoaiggooaaGreatDoor
open Go.RowKit
theorem SB{w:World}{b:Nat}{s:fU}(h:cZ w b s.1 s.2):Calls Tryz.prog 115 #[.pointer (some ⟨b,0,none⟩)] w λe w'=>e= .returned (.bool (!s.2&& !s.1.isEmpty))/\w'=w:=aaT h
theorem aW.SC{P:Program}{ops:Array Oper}{S:World->Prop}{K:Act->Prop}{i:Nat}{o:Oper}{l:List Nat}{a:Act}{v:Value}(ho:ops.toList[i]?=some o)(hw:Region.wanted o (yielded ops a.tmps)=true)(hy:∀w,S w->(execOp a.eval o).run P w= .ok (.value v) w)(h:aW P ops S K l (a.put o.dst v)):aW P ops S K (i::l) a:=
 aW.cons (by simpa using ho) hw hy h
structure RR(w:World)(p1 p2:Nat)(L:Int)(s:fU)(rv:Value)(A:List Sy)(wr:World):Prop where
 sc:cZ wr p1 s.1 s.2
 rule:uF wr p2 L rv A
 res:wr.heap[w.heap.size]?=some (.cells #[.int .i64 0,.slice none 0 0] 96 (0,0))
 below:Below w.heap.size w wr
section
variable{w wr w':World}{p1 p2:Nat}{L:Int}{s s':fU}{rv:Value}{A:List Sy}
theorem RR.size(h:RR w p1 p2 L s rv A wr):w.heap.size<wr.heap.size:=(dx.1 h.res).1
theorem RR.scan(h:RR w p1 p2 L s rv A wr)(hp:w.heap.size<p1/\p1<p2)(hb:But p1 wr w')(hs:cZ w' p1 s'.1 s'.2):RR w p1 p2 L s' rv A w':=
 ⟨hs,h.rule.but hb hp.2,(hb.block _ h.size (by omega)).trans h.res,h.below.trans (hb.below (by omega) (iQ h.size))⟩
theorem RR.later(h:RR w p1 p2 L s rv A wr)(hb:Below wr.heap.size wr w'):RR w p1 p2 L s rv A w':=
 ⟨(hb.block _ h.sc.lt).trans h.sc,h.rule.later hb,(hb.block _ h.size).trans h.res,h.below.trans (hb.mono (iQ h.size))⟩
theorem RR.put(h:RR w p1 p2 L s rv A wr)(hp:w.heap.size<p1/\p1<p2){rv':Value}{A':List Sy}(hg:wr.grownBy w' rv.ownBlock)(ho:w'.ownsRow (p2+1) 121 2 rv' A'.length (jQ A')):RR w p1 p2 L s rv' A' (w'.setCell ⟨p2,1,none⟩ rv'):=by
 have hb:∀k,k<p2->k<wr.heap.size->(w'.setCell ⟨p2,1,none⟩ rv').heap[k]?=wr.heap[k]?:=λk hk hl=>(gm w' _ _ k (by show k≠p2;omega)).trans (hg.block k hl λe=>by have:=(h.rule.own.lt k e.symm).1;omega);have hB:Below w.heap.size wr (w'.setCell ⟨p2,1,none⟩ rv'):=Below.setCell ⟨hg.os,hg.tape,hg.output,hg.size,λk hk=>hg.block k (by have:=h.size;omega) λe=>by have:=(h.rule.own.lt k e.symm).1;omega⟩ (by show w.heap.size<=p2;omega) _;exact⟨(hb _ hp.2 h.sc.lt).trans h.sc,h.rule.put hg ho,(hb _ (by omega) h.size).trans h.res,h.below.trans hB⟩
theorem uH{base:Nat}{e:TypeId}{size n:Nat}{xs:List Value}(h:w.ownsRow base e size rv n xs):∃a c,rv= .slice a n c:=by
 rcases h.2 with⟨h1,h2⟩|⟨g,cap,cur,h1,_⟩
 ·exact⟨none,0,by rw[h1,h2]⟩
 ·exact⟨_,_,h1⟩
theorem SE{base base':Nat}{e:TypeId}{size n:Nat}{xs:List Value}(h:w.ownsRow base e size rv n xs)(hb:base'<=base):w.ownsRow base' e size rv n xs:=by
 refine⟨h.1,?_⟩;rcases h.2 with h2|⟨g,cap,cur,h1,h2,h3⟩
 ·exact .inl h2
 ·exact .inr ⟨g,cap,cur,h1,by omega,h3⟩
theorem abb(l:List UInt8):Calls Tryz.prog 79 #[.string ⟨l.toArray⟩] w λe w'=> ∃rv,e= .returned (.tuple #[.agg #[.int .i64 (fu l),rv],.bool (BS l)])/\w'.ownsRow w.heap.size 121 2 rv (eD l).2.length (jQ (eD l).2)/\Below w.heap.size w w':=by
 obtain⟨W0,hW0⟩:=af (w.alloc (.cells #[.int .i64 0,.slice none 0 0] 96));obtain⟨W1,hW1⟩:=af (W0.alloc (.cells #[.string ⟨l.toArray⟩,.bool false] 202));have hx0:=heap_alloc_new w (.cells #[.int .i64 0,.slice none 0 0] 96);rw[hW0]at hx0;have hz0:W0.heap.size=w.heap.size+1:=by rw[<-hW0];simp
 have h1:=Sd W0 l;rw[hW1,hz0]at h1;have hx1:W1.heap[w.heap.size]?=some (.cells #[.int .i64 0,.slice none 0 0] 96 (0,0)):=by rw[<-hW1];exact(sJ W0 _ _ (by omega)).trans hx0
 have hB1:Below w.heap.size w W1:=by rw[<-hW1,<-hW0];exact((ai _ _).alloc (ah _) _).alloc (by simp) _
 have hz1:W1.heap.size=w.heap.size+2:=by rw[<-hW1];simp[hz0]
 have HW:Hid (w.alloc (.cells #[.int .i64 0,.slice none 0 0] 96)=W0/\W0.alloc (.cells #[.string ⟨l.toArray⟩,.bool false] 202)=W1/\W0.heap.size=w.heap.size+1):=⟨hW0,hW1,hz0⟩;have H1:Hid (W1.heap[w.heap.size]?=some (.cells #[.int .i64 0,.slice none 0 0] 96 (0,0))/\Below w.heap.size w W1/\W1.heap.size=w.heap.size+2):=⟨hx1,hB1,hz1⟩;have wd:=DC h1 [110];have HA:Hid (xh l=gW [110] (l,false)):=rfl;rw[<-HA.out]at wd;clear hW0 hW1 hx0 hz0 h1 hx1 hB1 hz1;obtain⟨p1,hp1⟩:=af (w.heap.size+1);rw[hp1]at wd;have HP:Hid (w.heap.size+1=p1):=hp1;clear hp1
 go_enter Tryz.func79,Tryz.ntmps79
 go_upto_region 2 with fail
 rw[HW.out.1];rw[HW.out.2.1];rw[HP.out];clear HW
 go_upto_region 4 with
  (first
   |(go_at_call 112;refine wd.mono ?_;rintro e w2 ⟨rfl,h2,h3⟩
     have nu:=FR h2;have H2:Hid (But p1 W1 w2):=h3
     clear wd h2 h3)
   |(go_at_call 113;refine nu.mono ?_;rintro e w3 ⟨rfl,h2,h3⟩
     have H3:Hid (But p1 W1 w3/\cZ w3 p1 (jk (xh l)).1 (jk (xh l)).2):=⟨H2.out.trans h3,h2⟩
     clear nu h2 h3))
 obtain⟨p2,hp2⟩:=af w3.heap.size;obtain⟨W4,dS⟩:=af (w3.alloc (.cells #[.int .i64 ((iA (xh l).1).1:Nat),.slice none 0 0] 96));rw[dS];rw[hp2];have NA:=H3.out.1.size;have vz:Hid (w.heap.size<p1/\p1<p2):=by have h1:=HP.out;have h2:=H1.out.2.2;exact⟨by omega,by omega⟩
 have hrr:RR w p1 p2 (fu l) (jk (xh l)) (.slice none 0 0) [] W4:=by
  have hx:=heap_alloc_new w3 (.cells #[.int .i64 ((iA (xh l).1).1:Nat),.slice none 0 0] 96);rw[dS,hp2]at hx;refine⟨by rw[<-dS];exact H3.out.2.alloc _,⟨hx,ji ..⟩,?_,?_⟩
  ·rw[<-dS]
   exact(sJ w3 _ _ (by have:=H1.out.2.2;omega)).trans ((H3.out.1.block _ (by have:=H1.out.2.2;omega) (by have:=vz.out;omega)).trans H1.out.1)
  ·rw[<-dS]
   exact(H1.out.2.1.trans (H3.out.1.below (by have:=vz.out;omega) (by have:=H1.out.2.2;omega))).alloc (by have:=H1.out.2.2;omega) _
 have wo:=DC hrr.sc [58];have HB:Hid (FU l=gW [58] (jk (xh l))):=rfl;rw[<-HB.out]at wo;have HR:Hid (RR w p1 p2 (fu l) (jk (xh l)) (.slice none 0 0) [] W4):=hrr;clear NA hrr dS hp2 H3 H2
 go_wp2_with
  (go_at_call 112;refine wo.mono ?_;rintro e w5 ⟨rfl,h2,h3⟩
   have vB:Hid (RR w p1 p2 (fu l) (FU l) (.slice none 0 0) [] w5):=HR.out.scan vz.out h3 h2
   clear wo h2 h3)
 go_loopw [6] (λs6 wr=> ∃(u:Value) (s:fU) (rv:Value) (A:List Sy) (f:Nat),s6=u/\RR w p1 p2 (fu l) s rv A wr/\A.length<=9/\mz s<=f/\Ah f s A=eD l) (λ_ wr=>JV p1 wr)
 case atStart=>exact⟨_,FU l,.slice none 0 0,[],_,rfl,vB.out,by simp,by unfold mz;split<;>omega,rfl⟩
 case round=>
  obtain⟨u,s,rv,A,f,rfl,hR,hA,hf,hE⟩:=hrel;obtain⟨ra,rc,aI⟩:=uH hR.rule.own;subst aI;cases hm:(!s.2&& !s.1.isEmpty) with
  |true=>
   have mo:=SB hR.sc;rw[hm]at mo;have sy:=aaX hR.sc;obtain⟨f',hf'⟩:∃f',f=f'+1:=⟨f-1,by have:=aa7 hm;omega⟩;subst hf';rw[Ah,hm,au rfl]at hE;have HZ:Hid (JV p1 wr=mz s/\mz (lW s)<mz s/\mz (lW s)<=f'):=⟨Nv hR.sc,Nw hm,by have:=Nw hm;omega⟩;have JY:Hid (RR w p1 p2 (fu l) s (.slice ra A.length rc) A wr):=hR;obtain⟨t,ht⟩:=af (Ag s);obtain⟨v,hv⟩:=af ((iA (qy s).1).1);rw[ht,hv]at hE sy;by_cases SF:A.length<=8
   ·rw[au SF]at hE
    have HE:Hid (Ah f' (lW s) (A++[(t,(v:Int))])=eD l):=hE;have i1:decide ((A.length:Int)<=8)=true:=aT (by omega);obtain⟨i5,hi5,kW,kX,lY⟩:=fK Tryz.infoSy9;have m1:A.length+1<=maxLen:=by unfold maxLen;omega
    have m2:(A.length+1)*16<=140737488355328:=by omega
    clear hR hf hE hm ht hv
    go_wp2_with
     (first
      |(go_at_call 115;refine mo.mono ?_;rintro e w6 ⟨rfl,h6⟩;obtain rfl:wr=w6:=h6.symm;clear mo)
      |(go_at_call 116;refine sy.mono ?_;rintro e w6 ⟨rfl,h2,h3⟩
        have sP:=(JY.out.scan vz.out h3 h2).later ((ai _ _).alloc (ah _) (.cells #[.bool t,.int .i64 (v:Int)] 121));have Ai:=sP.later ((ai _ _).alloc (ah _) (.cells #[.bool t,.int .i64 (v:Int)] 121));have c1:=ay (i:=1) sP.rule.at_ rfl;have SG:=Ai.rule.own;have xw:=Ai.rule.lt;have qW:Hid (RR w p1 p2 (fu l) (lW s) (.slice ra A.length rc) A ((w6.alloc (.cells #[.bool t,.int .i64 (v:Int)] 121)).alloc (.cells #[.bool t,.int .i64 (v:Int)] 121))):=Ai;have hnw:=jh (cs:= #[.bool t,.int .i64 (v:Int)]) (t:=121) (fr:=(0,0)) (heap_alloc_new (w6.alloc (.cells #[.bool t,.int .i64 (v:Int)] 121)) (.cells #[.bool t,.int .i64 (v:Int)] 121))
        clear sy h2 h3 sP Ai)
      |(at_builtin
        refine ow _ rfl _ _ _ rfl (p2+1) 121 i5 _ 2 16 Tryz.underlying94 hi5 kW kX lY rfl (by omega) (.slice ra A.length rc) A.length (jQ A) rfl SG
         ⟨(w6.alloc (.cells #[.bool t,.int .i64 (v:Int)] 121)).heap.size,0,none⟩ 1 1 [.bool t,.int .i64 (v:Int)] (by simp[go_sem]) rfl hnw (by simp[Value.oneCell']) (by omega) m1 m2 xw _ rfl ?_
        intro g9 pJ w9 kG iX qX sQ;have hq:w9.heap[p2]?=_:=(iX.block p2 xw (λe=>by have:=(qW.out.rule.own.lt _ e.symm).1;omega)).trans qW.out.rule.at_;have c9:=ay (i:=1) hq rfl;have f9:w9.frozen? ⟨p2,1,none⟩=false:=bO hq
        clear hq))
    have xA:Hid (RR w p1 p2 (fu l) (lW s) (.slice (some ⟨g9,0,none⟩) (A.length+1) pJ) (A++[(t,(v:Int))]) (w9.setCell ⟨p2,1,none⟩ (.slice (some ⟨g9,0,none⟩) (A.length+1) pJ))):=qW.out.put vz.out iX (by rw[aaZ];simpa using kG);clear kG iX qX sQ SG hnw hi5 kW kX lY m1 m2 xw;go_roundw
    case rel=>exact⟨_,_,_,_,f',rfl,xA.out,by simp;omega,HZ.out.2.2,HE.out⟩
    case measure=>
     rw[HZ.out.1,Nv xA.out.sc];exact HZ.out.2.1
   ·rw[aj SF]at hE
    have HE:Hid (Ah f' (lW s) A=eD l):=hE;have i1:decide ((A.length:Int)<=8)=false:=aU (by omega);clear hR hf hE hm ht hv
    go_wp2_with
     (first
      |(go_at_call 115;refine mo.mono ?_;rintro e w6 ⟨rfl,h6⟩;obtain rfl:wr=w6:=h6.symm;clear mo)
      |(go_at_call 116;refine sy.mono ?_;rintro e w6 ⟨rfl,h2,h3⟩
        have sP:=(JY.out.scan vz.out h3 h2).later ((ai _ _).alloc (ah _) (.cells #[.bool t,.int .i64 (v:Int)] 121));have c1:=ay (i:=1) sP.rule.at_ rfl;have SH:Hid (RR w p1 p2 (fu l) (lW s) (.slice ra A.length rc) A (w6.alloc (.cells #[.bool t,.int .i64 (v:Int)] 121))):=sP
        clear sy h2 h3 sP))
    go_roundw
    case rel=>exact⟨_,_,_,_,f',rfl,SH.out,hA,HZ.out.2.2,HE.out⟩
    case measure=>
     rw[HZ.out.1,Nv SH.out.sc];exact HZ.out.2.1
  |false=>
   have mo:=SB hR.sc;rw[hm]at mo;rw[aa6 f hm]at hE;have HE:Hid (eD l=(s,A)):=hE.symm;have JY:Hid (RR w p1 p2 (fu l) s (.slice ra A.length rc) A wr):=hR;clear hR hf hE hm
   go_upto_region 9 with(go_at_call 115;refine mo.mono ?_;rintro e w6 ⟨rfl,h6⟩;obtain rfl:wr=w6:=h6.symm;clear mo)
   obtain⟨Wd,hWd⟩:=af wr.drew;have dX:RR w p1 p2 (fu l) s (.slice ra A.length rc) A Wd:=by rw[<-hWd];exact JY.out.later (ai _ _).drew
   have S0:Wd.cell? ⟨p2,0,none⟩=some (.int .i64 (fu l))/\Wd.cell? ⟨p2,1,none⟩=some (.slice ra A.length rc):=⟨ay dX.rule.at_ rfl,ay dX.rule.at_ rfl⟩;have fM:Hid (RR w p1 p2 (fu l) s (.slice ra A.length rc) A Wd):=dX;clear dX;refine mK [0] 3 3 (λwq=>wq.cell? ⟨p2,0,none⟩=some (.int .i64 (fu l))/\wq.cell? ⟨p2,1,none⟩=some (.slice ra A.length rc)) (by kernel_rfl) (by kernel_rfl) (by rw[hWd];exact S0) ?_;rw[hWd];clear hWd;refine aW.SC (v:= ?_) rfl (by rfl) ?_ ?_;rotate_left
   ·intro w' hSw
    obtain⟨z0,z1⟩:=hSw
    go_simp
    try with_reducible rfl
   simp only[Act.put,eB,List.set_cons_zero,List.set_cons_succ];rw[aW];have dn:=Sc fM.out.sc;refine aC.one (i:=1) (by kernel_rfl) ⟨_,rfl,λK hK=> ?_⟩
   go_simp
   refine dn.mono ?_;rintro e w4 ⟨rfl,h4⟩;obtain rfl:Wd=w4:=h4.symm;dsimp only;refine hK.out _ _ (λ_=>S0) ?_;clear hK dn;have r0:=ay (i:=0) fM.out.res rfl;have r1:=ay (i:=1) fM.out.res rfl;have g0:Wd.frozen? ⟨w.heap.size,0,none⟩=false:=bO fM.out.res;have g1:Wd.frozen? ⟨w.heap.size,1,none⟩=false:=bO fM.out.res;obtain⟨W9,NC⟩:=af ((Wd.setCell ⟨w.heap.size,0,none⟩ (.int .i64 (fu l))).setCell ⟨w.heap.size,1,none⟩ (.slice ra A.length rc));have vC:W9.heap[w.heap.size]?=some (.cells #[.int .i64 (fu l),.slice ra A.length rc] 96 (0,0)):=by rw[<-NC];exact Lib.heap_setCell_same (i:=1) (Lib.heap_setCell_same (i:=0) fM.out.res _) _
   have JZ:∀k,k≠w.heap.size->W9.heap[k]?=Wd.heap[k]?:=λk hk=>by rw[<-NC];exact(gm _ _ _ k hk).trans (gm _ _ _ k hk)
   have yN:Below w.heap.size w W9:=by rw[<-NC];exact(fM.out.below.setCell (ah _) _).setCell (ah _) _
   have ND:=(JZ p2 (by have:=vz.out;omega)).trans fM.out.rule.at_;have S9:W9.cell? ⟨p2,0,none⟩=some (.int .i64 (fu l))/\W9.cell? ⟨p2,1,none⟩=some (.slice ra A.length rc):=⟨ay ND rfl,ay ND rfl⟩;have kG:W9.ownsRow w.heap.size 121 2 (.slice ra A.length rc) A.length (jQ A):=SE (lu fM.out.rule.own λg hg=>JZ g (by have:=(fM.out.rule.own.lt g hg).1;have:=vz.out;omega)) (by have:=vz.out;omega);have H9:Hid (W9.ownsRow w.heap.size 121 2 (.slice ra A.length rc) A.length (jQ A)/\Below w.heap.size w W9):=⟨kG,yN⟩;have x0:=ay (i:=0) vC rfl;have x1:=ay (i:=1) vC rfl;clear vC JZ yN ND kG;refine aC.one (i:=2) (by kernel_rfl) ⟨_,rfl,λK hK=> ?_⟩
   go_simp
   refine hK.out _ _ (λ_=>S9) ?_;clear hK;refine aC.last (i:=3) (by kernel_rfl) ⟨_,rfl,λK hK=> ?_⟩
   go_simp
   refine hK.out _ _ (λh=>absurd h (by omega)) (NoPanic.normal ?_);clear hK
   go_wp2_with fail
   refine aH (v:= .tuple #[.agg #[.int .i64 (fu l),.slice ra A.length rc],.bool (!s.2&&s.1.isEmpty)]) (by simp[results,Tryz.results79,go_sem,x0,x1]) rfl ⟨.slice ra A.length rc,?_,?_,H9.out.2⟩
   ·unfold BS
    rw[HE.out]
   ·rw[HE.out]
    exact H9.out.1
end
def vD(l:List (Value×Ru)):List Value:=l.flatMap λx=>[.int .i64 x.2.1,x.1]
theorem abd(l:List (Value×Ru))(x:Value×Ru):vD (l++[x])=vD l++[.int .i64 x.2.1,x.1]:=by simp[vD]
structure GR(w:World)(gb:Nat)(T N:Int)(rv:Value)(RL:List (Value×Ru)):Prop where
 at_:w.heap[gb]?=some (.cells #[.int .i64 T,.int .i64 N,rv] 27 (0,0))
 own:w.ownsRow (gb+1) 96 2 rv RL.length (vD RL)
 right:∀x∈RL,w.ownsRow (gb+1) 121 2 x.1 x.2.2.length (jQ x.2.2)/\∀g,x.1.ownBlock=some g->rv.ownBlock≠some g
def pK(line:List UInt8)(R:List Ru):List Ru:=if BS line=true/\R.length<=40 then R++[((fu line:Int),(eD line).2)] else R
section
variable{w w':World}{gb:Nat}{T N:Int}{rv:Value}{RL:List (Value×Ru)}
theorem GR.lt(h:GR w gb T N rv RL):gb<w.heap.size:=(dx.1 h.at_).1
theorem GR.later(h:GR w gb T N rv RL)(hb:Below w.heap.size w w'):GR w' gb T N rv RL:=
 ⟨(hb.block _ h.lt).trans h.at_,lu h.own λg hg=>hb.block g (h.own.lt g hg).2,λx hx=>⟨lu (h.right x hx).1 λg hg=>hb.block g ((h.right x hx).1.lt g hg).2,(h.right x hx).2⟩⟩
theorem GR.head(h:GR w gb T N rv RL)(hb:But gb w w'){T' N':Int}(ha:w'.heap[gb]?=some (.cells #[.int .i64 T',.int .i64 N',rv] 27 (0,0))):GR w' gb T' N' rv RL:=
 ⟨ha,lu h.own λg hg=>hb.block g (h.own.lt g hg).2 (by have:=(h.own.lt g hg).1;omega),λx hx=>⟨lu (h.right x hx).1 λg hg=>hb.block g ((h.right x hx).1.lt g hg).2 (by have:=((h.right x hx).1.lt g hg).1;omega),(h.right x hx).2⟩⟩
theorem GR.put(h:GR w gb T N rv RL){v:Value}{r:Ru}(hv:w.ownsRow (gb+1) 121 2 v r.2.length (jQ r.2))(hd:∀g,v.ownBlock=some g->rv.ownBlock≠some g){g cap:Nat}
 (hg:w.grownBy w' rv.ownBlock) (hn:rv.ownBlock=some g\/g=w.heap.size) (ho:w'.ownsRow (gb+1) 96 2 (.slice (some ⟨g,0,none⟩) (RL.length+1) cap) (RL.length+1) (vD RL++[.int .i64 r.1,v])):
 GR (w'.setCell ⟨gb,2,none⟩ (.slice (some ⟨g,0,none⟩) (RL.length+1) cap)) gb T N (.slice (some ⟨g,0,none⟩) (RL.length+1) cap) (RL++[(v,r)]):=by
 have hb:w'.heap[gb]?=w.heap[gb]?:=hg.block gb h.lt λe=>by have:=(h.own.lt gb e.symm).1;omega
 have hk:∀k,k≠gb->(w'.setCell ⟨gb,2,none⟩ (.slice (some ⟨g,0,none⟩) (RL.length+1) cap)).heap[k]?=w'.heap[k]?:=λk hk=>gm _ _ _ k hk
 have hr:∀x:Value×Ru,w.ownsRow (gb+1) 121 2 x.1 x.2.2.length (jQ x.2.2)->(∀j,x.1.ownBlock=some j->rv.ownBlock≠some j)->(w'.setCell ⟨gb,2,none⟩ (.slice (some ⟨g,0,none⟩) (RL.length+1) cap)).ownsRow (gb+1) 121 2 x.1 x.2.2.length (jQ x.2.2)/\∀j,x.1.ownBlock=some j->(Value.slice (some ⟨g,0,none⟩) (RL.length+1) cap).ownBlock≠some j:=λx h1 h2=>by
  refine⟨lu h1 λj hj=>(hk j (by have:=(h1.lt j hj).1;omega)).trans (hg.block j (h1.lt j hj).2 λe=>h2 j hj e.symm),λj hj=> ?_⟩;simp only[Value.ownBlock,ne_eq,bM];intro e;subst e;rcases hn with hn|hn
  ·exact h2 _ hj hn
  ·have:=(h1.lt _ hj).2
   omega
 refine⟨Lib.heap_setCell_same (hb.trans h.at_) _,?_,λx hx=> ?_⟩
 ·rw[abd,aS]
  exact lu ho λj hj=>hk j (by have:=(ho.lt j hj).1;omega)
 ·rcases iV.1 hx with hx|hx
  ·exact hr x (h.right x hx).1 (h.right x hx).2
  ·rw[gG.1 hx]
   exact hr (v,r) hv hd
theorem SI(h:GR w gb T N rv RL)(l:List UInt8):Calls Tryz.prog 41 #[.pointer (some ⟨gb,0,none⟩),.int .i64 0,.string ⟨l.toArray⟩] w λe w'=>e= .returned (.bool (JU l))/\GR w' gb (oz l) (hdN l) rv RL/\Below gb w w':=by
 have hd:=aaY l h.at_;have H:Hid (GR w gb T N rv RL):=h;clear h
 go_enter Tryz.func41,Tryz.ntmps41
 go_wp2_with
  (go_at_call 78;refine hd.mono ?_;rintro e w2 ⟨rfl,h2,h3⟩
   have H2:Hid (GR w2 gb (oz l) (hdN l) rv RL/\Below gb w w2):=⟨H.out.head h3 h2,h3.below (ah _) (iQ H.out.lt)⟩
   clear hd h2 h3)
 go_ret;exact⟨rfl,H2.out⟩
theorem SK(h:GR w gb T N rv RL)(hR:RL.length<=41){m:Nat}(hm:m≠0)(l:List UInt8):Calls Tryz.prog 41 #[.pointer (some ⟨gb,0,none⟩),.int .i64 m,.string ⟨l.toArray⟩] w λe w'=>e= .returned (.bool (BS l))/\(∃rv' SL,GR w' gb T N rv' SL/\SL.map (λx=>x.2)=pK l (RL.map λx=>x.2))/\Below gb w w':=by
 have rr:=abb (w:=w) l;have H:Hid (GR w gb T N rv RL):=h;obtain⟨ra,rc,aI⟩:=uH h.own;subst aI;clear h;have b1:((m:Int)==0)=false:=by simp[hm]
 have b2:(m==0)=false:=by simp[hm]
 clear hm;cases hok:BS l with
 |false=>
  rw[hok]at rr;have HL:Hid (pK l (RL.map λx=>x.2)=RL.map λx=>x.2):=by show _=_;simp[pK,hok]
  clear hok
  go_enter Tryz.func41,Tryz.ntmps41
  go_wp2_with
   (go_at_call 79;refine rr.mono ?_;rintro e w2 ⟨v,rfl,h2,h3⟩
    have hG:=(H.out.later h3).later ((ai _ _).alloc (ah _) (.cells #[.int .i64 (fu l),v] 96));have H2:Hid (GR (w2.alloc (.cells #[.int .i64 (fu l),v] 96)) gb T N (.slice ra RL.length rc) RL/\Below gb w (w2.alloc (.cells #[.int .i64 (fu l),v] 96))):=⟨hG,(h3.mono (iQ H.out.lt)).alloc (aZ (iQ H.out.lt) h3.size) _⟩;obtain⟨va,vc,hv⟩:=uH h2;subst hv
    clear rr h2 h3 hG)
  go_ret;exact⟨rfl,⟨_,_,H2.out.1,HL.out.symm⟩,H2.out.2⟩
 |true=>
  rw[hok]at rr;by_cases BX:RL.length<=40
  ·have HL:Hid (pK l (RL.map λx=>x.2)=(RL.map λx=>x.2)++[((fu l:Int),(eD l).2)]):=by show _=_;simp[pK,hok,BX]
   have d1:decide ((RL.length:Int)<=40)=true:=aT (by omega);clear hok
   go_enter Tryz.func41,Tryz.ntmps41
   go_upto_region 5 with
   (go_at_call 79;refine rr.mono ?_;rintro e w2 ⟨v,rfl,h2,h3⟩
    have hG:=(H.out.later h3).later ((ai _ _).alloc (ah _) (.cells #[.int .i64 (fu l),v] 96));have H2:Hid (GR (w2.alloc (.cells #[.int .i64 (fu l),v] 96)) gb T N (.slice ra RL.length rc) RL/\Below gb w (w2.alloc (.cells #[.int .i64 (fu l),v] 96))):=⟨hG,(h3.mono (iQ H.out.lt)).alloc (aZ (iQ H.out.lt) h3.size) _⟩;have HV:Hid (w2.ownsRow w.heap.size 121 2 v (eD l).2.length (jQ (eD l).2)/\Below w.heap.size w w2):=⟨h2,h3⟩;have c2:=ay (i:=2) hG.at_ rfl;obtain⟨va,vc,hv⟩:=uH h2;subst hv
    clear rr h2 h3 hG)
   obtain⟨q,hq⟩:=af w2.heap.size;obtain⟨W3,hW3⟩:=af (w2.alloc (.cells #[.int .i64 (fu l),.slice va (eD l).2.length vc] 96));have hx3:=heap_alloc_new w2 (.cells #[.int .i64 (fu l),.slice va (eD l).2.length vc] 96);rw[hW3]at H2 hx3 c2;rw[hW3];rw[hq]at hx3;rw[hq]
   have hvd:∀g,(Value.slice va (eD l).2.length vc).ownBlock=some g->(Value.slice ra RL.length rc).ownBlock≠some g:=λg hg e=>by
    have h1:=(HV.out.1.lt g hg).1;have h2:=(H.out.own.lt g e).2;omega
   have SN:W3.ownsRow (gb+1) 121 2 (.slice va (eD l).2.length vc) (eD l).2.length (jQ (eD l).2):=by
    rw[<-hW3];exact lu (SE HV.out.1 H.out.lt) λg hg=>sJ _ _ _ (HV.out.1.lt g hg).2
   have NE:Hid (W3.ownsRow (gb+1) 121 2 (.slice va (eD l).2.length vc) (eD l).2.length (jQ (eD l).2)/\∀g,(Value.slice va (eD l).2.length vc).ownBlock=some g->(Value.slice ra RL.length rc).ownBlock≠some g):=⟨SN,hvd⟩;have H3:Hid (Below w.heap.size w w2):=HV.out.2;clear hvd SN HV;obtain⟨Wd,hWd⟩:=af W3.drew;have hBd:Below W3.heap.size W3 Wd:=by rw[<-hWd];exact(ai _ _).drew
   have hxd:=(hBd.block _ (dx.1 hx3).1).trans hx3;have J2:=H2.out.1.later hBd;have S0:Wd.cell? ⟨gb,2,none⟩=some (.slice ra RL.length rc)/\Wd.cell? ⟨q,0,none⟩=some (.int .i64 (fu l))/\Wd.cell? ⟨q,1,none⟩=some (.slice va (eD l).2.length vc):=⟨ay J2.at_ rfl,ay hxd rfl,ay hxd rfl⟩;have hvd:Wd.ownsRow (gb+1) 121 2 (.slice va (eD l).2.length vc) (eD l).2.length (jQ (eD l).2):=lu NE.out.1 λg hg=>hBd.block g (NE.out.1.lt g hg).2;obtain⟨W4,dS⟩:=af (Wd.alloc (.cells #[.int .i64 (fu l),.slice va (eD l).2.length vc] 96));have hBa:Below Wd.heap.size Wd W4:=by rw[<-dS];exact(ai _ _).alloc (ah _) _
   have J3:W4.heap.size=Wd.heap.size+1:=by rw[<-dS];simp
   have hG4:=J2.later hBa;have hx4:=(hBa.block _ (dx.1 hxd).1).trans hxd;have S4:W4.cell? ⟨gb,2,none⟩=some (.slice ra RL.length rc)/\W4.cell? ⟨q,0,none⟩=some (.int .i64 (fu l))/\W4.cell? ⟨q,1,none⟩=some (.slice va (eD l).2.length vc):=⟨ay hG4.at_ rfl,ay hx4 rfl,ay hx4 rfl⟩;have hv4:W4.ownsRow (gb+1) 121 2 (.slice va (eD l).2.length vc) (eD l).2.length (jQ (eD l).2):=lu hvd λg hg=>hBa.block g (hvd.lt g hg).2;have NG:=heap_alloc_new Wd (.cells #[.int .i64 (fu l),.slice va (eD l).2.length vc] 96);rw[dS]at NG;have hnw:=jh NG;have hB4:Below gb w W4:=H2.out.2.trans ((hBd.mono (iQ H2.out.1.lt)).trans (hBa.mono (iQ J2.lt)));have NH:=hG4.lt;have eU:=hG4.own;have H4:Hid (GR W4 gb T N (.slice ra RL.length rc) RL/\W4.ownsRow (gb+1) 121 2 (.slice va (eD l).2.length vc) (eD l).2.length (jQ (eD l).2)/\Below gb w W4):=⟨hG4,hv4,hB4⟩;clear hx3 c2 hBd hxd J2 hvd hBa J3 hG4 hv4 NG hB4 hW3;refine mK [0,1,2,3,4,5] 5 10 (λwq=>wq.cell? ⟨gb,2,none⟩=some (.slice ra RL.length rc)/\wq.cell? ⟨q,0,none⟩=some (.int .i64 (fu l))/\wq.cell? ⟨q,1,none⟩=some (.slice va (eD l).2.length vc)) (by kernel_rfl) (by kernel_rfl) (by rw[hWd];exact S0) ?_;rw[hWd];clear hWd
   iterate 6
    refine aW.SC (v:= ?_) rfl (by rfl) ?_ ?_;rotate_left
    ·intro w' hSw
     obtain⟨z0,z1,z2⟩:=hSw
     go_simp
     try with_reducible rfl
    simp only[Act.put,eB,List.set_cons_zero,List.set_cons_succ]
   rw[aW];refine aC.one (i:=6) (by kernel_rfl) ⟨_,rfl,λK hK=> ?_⟩
   go_simp
   refine hK.out _ _ (λ_=>S4) ?_;clear hK;obtain⟨i5,hi5,kW,kX,lY⟩:=fK Tryz.infoRu9;have m1:RL.length+1<=maxLen:=by unfold maxLen;omega
   have m2:(RL.length+1)*32<=140737488355328:=by omega
   have hqq:(Value.slice ra RL.length rc).ownBlock≠some q:=λe=>by
    have h1:=(H.out.own.lt q e).2;have h2:=H3.out.size;omega
   have hq4:q<W4.heap.size:=aQ _ _ S4.2.1;refine aC.one (i:=7) (by kernel_rfl) ⟨_,rfl,λK hK=> ?_⟩;rw[au (by rfl)]
   refine wp_append_lies _ (.tmp 32) (.tmp 34) _ rfl (gb+1) 96 i5 _ 2 32 Tryz.underlying25 hi5 kW kX lY rfl (by omega) (.slice ra RL.length rc) RL.length (vD RL) rfl eU
    ⟨Wd.heap.size,0,none⟩ 1 1 [.int .i64 (fu l),.slice va (eD l).2.length vc] rfl rfl hnw (by simp[Value.oneCell']) (by omega) m1 m2 NH _ rfl ?_
   intro g9 pJ w9 kG iX qX sQ;have NI:w9.heap[q]?=W4.heap[q]?:=iX.block q hq4 λe=>hqq e.symm;have NJ:w9.heap[gb]?=W4.heap[gb]?:=iX.block gb NH λe=>by have:=(eU.lt gb e.symm).1;omega
   have S9:w9.cell? ⟨gb,2,none⟩=some (.slice ra RL.length rc)/\w9.cell? ⟨q,0,none⟩=some (.int .i64 (fu l))/\w9.cell? ⟨q,1,none⟩=some (.slice va (eD l).2.length vc):=⟨(pI NJ).trans S4.1,(pI NI).trans S4.2.1,(pI NI).trans S4.2.2⟩;have c9:=S9.1;have f9:w9.frozen? ⟨gb,2,none⟩=false:=bO (NJ.trans H4.out.1.at_)
   have SQ:Hid (GR (w9.setCell ⟨gb,2,none⟩ (.slice (some ⟨g9,0,none⟩) (RL.length+1) pJ)) gb T N (.slice (some ⟨g9,0,none⟩) (RL.length+1) pJ) (RL++[(.slice va (eD l).2.length vc,((fu l:Int),(eD l).2))])/\Below gb w (w9.setCell ⟨gb,2,none⟩ (.slice (some ⟨g9,0,none⟩) (RL.length+1) pJ))):=by
    refine⟨H4.out.1.put (r:=((fu l:Int),(eD l).2)) H4.out.2.1 NE.out.2 iX qX kG,?_⟩;exact(H4.out.2.2.trans ⟨iX.os,iX.tape,iX.output,iX.size,λk hk=>iX.block k (by omega) λe=>by have:=(eU.lt k e.symm).1;omega⟩).setCell (ah _) _
   refine hK.out _ _ (λ_=>S9) ?_;clear hK kG iX qX sQ NI NJ hi5 kW kX lY m1 m2 hqq hq4 hnw NH eU H4 S0 S4;simp only[Act.put,eB,List.set_cons_zero,List.set_cons_succ];refine aC.one (i:=8) (by kernel_rfl) ⟨_,rfl,λK hK=> ?_⟩
   go_simp
   refine hK.out _ _ (λ_=>S9) ?_;clear hK;refine aC.one (i:=9) (by kernel_rfl) ⟨_,rfl,λK hK=> ?_⟩
   go_simp
   refine hK.out _ _ (λ_=>S9) ?_;clear hK;refine aC.last (i:=10) (by kernel_rfl) ⟨_,rfl,λK hK=> ?_⟩
   go_simp
   refine hK.out _ _ (λh=>absurd h (by omega)) (NoPanic.normal ?_);clear hK
   go_wp2_with fail
   go_ret;refine⟨rfl,⟨_,_,SQ.out.1,?_⟩,SQ.out.2⟩;rw[HL.out];simp
  ·have HL:Hid (pK l (RL.map λx=>x.2)=RL.map λx=>x.2):=by show _=_;simp[pK,BX]
   have d1:decide ((RL.length:Int)<=40)=false:=aU (by omega);clear hok
   go_enter Tryz.func41,Tryz.ntmps41
   go_wp2_with
   (go_at_call 79;refine rr.mono ?_;rintro e w2 ⟨v,rfl,h2,h3⟩
    have hG:=(H.out.later h3).later ((ai _ _).alloc (ah _) (.cells #[.int .i64 (fu l),v] 96));have H2:Hid (GR (w2.alloc (.cells #[.int .i64 (fu l),v] 96)) gb T N (.slice ra RL.length rc) RL/\Below gb w (w2.alloc (.cells #[.int .i64 (fu l),v] 96))):=⟨hG,(h3.mono (iQ H.out.lt)).alloc (aZ (iQ H.out.lt) h3.size) _⟩;have HV:Hid (w2.ownsRow w.heap.size 121 2 v (eD l).2.length (jQ (eD l).2)/\Below w.heap.size w w2):=⟨h2,h3⟩;have c2:=ay (i:=2) hG.at_ rfl;obtain⟨va,vc,hv⟩:=uH h2;subst hv
    clear rr h2 h3 hG)
   go_ret;exact⟨rfl,⟨_,_,H2.out.1,HL.out.symm⟩,H2.out.2⟩
end
def jF(c:UInt8):List UInt8->Option (List UInt8×List UInt8)
 | []=>none
 |b::l=>if b==c then some ([],l) else (jF c l).map λp=>(b::p.1,p.2)
theorem abe{c:UInt8}{s:List UInt8}(h:jF c s=none):Lib.indexByte s c= -1:=by
 induction s with
 |nil=>rfl
 |cons b l ih=>
  unfold jF at h;unfold Lib.indexByte;cases hb:b==c with
  |true=>rw[hb]at h;simp at h
  |false=>
   rw[hb]at h;simp only[dO,bN,Option.map_eq_none_iff]at h;rw[ih h];simp
theorem J4{c:UInt8}{s a r:List UInt8}(h:jF c s=some (a,r)):Lib.indexByte s c=(a.length:Int)/\s=a++c::r:=by
 induction s generalizing a with
 |nil=>simp[jF]at h
 |cons b l ih=>
  unfold jF at h;unfold Lib.indexByte;cases hb:b==c with
  |true=>
   rw[hb]at h;simp only[bQ,bM,qx]at h;obtain⟨rfl,rfl⟩:=h;have:b=c:=by simpa using hb
   simp[this]
  |false=>
   rw[hb]at h;simp only[dO,bN,yK,qx]at h;obtain⟨⟨a',r'⟩,h1,h2,h3⟩:=h;simp only at h2 h3;subst h2;subst h3;obtain⟨h4,h5⟩:=ih h1;rw[h4];have:((a'.length:Int)== -1)=false:=by simp
   rw[this];simp[h5]
def Aj:List UInt8->Option (List UInt8×List UInt8)
 | []=>none
 |b::l=>if b==10 then some ([],l) else (Aj l).map λp=>(b::p.1,p.2)
theorem J5:∀s:List UInt8,Aj s=jF 10 s
 | []=>rfl
 |b::l=>by rw[Aj,jF,J5 l]
theorem SS{s a r:List UInt8}(h:Aj s=some (a,r)):Lib.indexByte s 10=(a.length:Int)/\s=a++10::r:=J4 (by rw[<-J5];exact h)
section
variable{w:World}{c:UInt8}{s a r:List UInt8}
theorem abf(r:List UInt8)(k:Nat):(⟨r.toArray⟩:ByteArray).extract 0 k=⟨(r.take k).toArray⟩:=by
 apply ByteArray.ext;simp[ByteArray.data_extract]
theorem abg(h:jF c s=none)(w:World):Calls Tryz.prog 28 #[.string ⟨s.toArray⟩,.string ⟨#[c]⟩] w λe w'=>e= .returned (.tuple #[.string ⟨s.toArray⟩,.string ⟨#[]⟩,.bool false])/\w'=w:=by
 have ix:=R7 ⟨s.toArray⟩ c w;simp only[abe h]at ix;clear h
 go_enter Tryz.func28,Tryz.ntmps28
 go_wp2_with
  (go_at_call 63;refine ix.mono ?_;rintro e w2 ⟨rfl,h2⟩;obtain rfl:w=w2:=h2.symm;clear ix)
 refine aH (v:= .tuple #[.string ⟨s.toArray⟩,.string ⟨#[]⟩,.bool false]) (by simp[results,Tryz.results28,go_sem]) rfl ⟨rfl,rfl⟩
theorem abh(h:jF c s=some (a,r))(hs:s.length<=9223372036854775807)(w:World):Calls Tryz.prog 28 #[.string ⟨s.toArray⟩,.string ⟨#[c]⟩] w λe w'=>e= .returned (.tuple #[.string ⟨a.toArray⟩,.string ⟨r.toArray⟩,.bool true])/\Below w.heap.size w w':=by
 have ix:=R7 ⟨s.toArray⟩ c w;obtain⟨h1,h2⟩:=J4 h;simp only[h1]at ix;have hl:s.length=a.length+1+r.length:=by rw[h2];simp;omega
 have HT:Hid (s.take a.length=a/\s.drop (a.length+1)=r):=by
  show _/\_;rw[h2];refine⟨by simp,?_⟩;rw[List.drop_append];simp
 obtain⟨k,hk⟩:=af a.length;rw[hk]at ix hl HT;have c1:(0:Int)<=(k:Int):=by omega
 have c2:(k:Int)<=(s.length:Int):=by omega
 have c3:(0:Int)<=(k:Int)+1:=by omega
 have c4:(k:Int)+1<=(s.length:Int):=by omega
 have c5:decide ((0:Int)<=(k:Int))=true:=aT c1;clear h h1 h2 hk hl
 go_enter Tryz.func28,Tryz.ntmps28
 go_wp2_with
  (go_at_call 63;refine ix.mono ?_;rintro e w2 ⟨rfl,h2⟩;obtain rfl:w=w2:=h2.symm;clear ix)
 go_region
 go_wp2_with fail
 refine aH (v:= .tuple #[.string ((⟨s.toArray⟩:ByteArray).extract 0 k),.string ((⟨s.toArray⟩:ByteArray).extract (k+1) s.length),.bool true]) (by simp[results,Tryz.results28,go_sem]) rfl ⟨?_,(ai _ _).drew⟩;rw[abf,Ns,HT.out.1,HT.out.2]
theorem SV(h:jF c s=none)(w:World):Calls Tryz.prog 12 #[.string ⟨s.toArray⟩,.string ⟨#[c]⟩] w λe w'=>e= .returned (.tuple #[.string ⟨s.toArray⟩,.string ⟨#[]⟩,.bool false])/\w'=w:=by
 have ct:=abg h w;clear h
 go_enter Tryz.func12,Tryz.ntmps12
 go_wp2_with
  (go_at_call 28;refine ct.mono ?_;rintro e w2 ⟨rfl,h2⟩;obtain rfl:w=w2:=h2.symm;clear ct)
 refine aH (v:= .tuple #[.string ⟨s.toArray⟩,.string ⟨#[]⟩,.bool false]) (by simp[results,Tryz.results12,go_sem]) rfl ⟨rfl,rfl⟩
theorem SX(h:jF c s=some (a,r))(hs:s.length<=9223372036854775807)(w:World):Calls Tryz.prog 12 #[.string ⟨s.toArray⟩,.string ⟨#[c]⟩] w λe w'=>e= .returned (.tuple #[.string ⟨a.toArray⟩,.string ⟨r.toArray⟩,.bool true])/\Below w.heap.size w w':=by
 have ct:=abh h hs w;clear h
 go_enter Tryz.func12,Tryz.ntmps12
 go_wp2_with
  (go_at_call 28;refine ct.mono ?_;rintro e w2 ⟨rfl,h2⟩;have H2:Hid (Below w.heap.size w w2):=h2;clear ct h2)
 refine aH (v:= .tuple #[.string ⟨a.toArray⟩,.string ⟨r.toArray⟩,.bool true]) (by simp[results,Tryz.results12,go_sem]) rfl ⟨rfl,H2.out⟩
theorem abj(h:Aj s=none)(w:World):Calls Tryz.prog 12 #[.string ⟨s.toArray⟩,.string ⟨#[10]⟩] w λe w'=>e= .returned (.tuple #[.string ⟨s.toArray⟩,.string ⟨#[]⟩,.bool false])/\w'=w:=SV (by rw[<-J5];exact h) w
theorem abk(h:Aj s=some (a,r))(hs:s.length<=9223372036854775807)(w:World):Calls Tryz.prog 12 #[.string ⟨s.toArray⟩,.string ⟨#[10]⟩] w λe w'=>e= .returned (.tuple #[.string ⟨a.toArray⟩,.string ⟨r.toArray⟩,.bool true])/\Below w.heap.size w w':=SX (by rw[<-J5];exact h) hs w
end
end Go.Proofs.YthbifaoaiggooaaGreatDoor
