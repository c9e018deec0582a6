import Derived.Test.YthbifaoaiggooaaGreatDoorq4
import Derived.Maps.Keyed
import Derived.WideKeyEntry
import Derived.DeepKeys4
set_option maxRecDepth 100000
namespace Go.Proofs.YthbifaoaiggooaaGreatDoor
structure aX where
 rule:Nat
 read:Nat
 fr:Nat
 upto:Nat
 deriving DecidableEq
abbrev dU:=Int×Nat
structure bq where
 I:List aX
 O:List aX
 W:dU->List aX
 E:dU->List Nat
 c:Nat
def gI{α:Type}(f:dU->α)(s:dU)(x:α):dU->α:=λt=>if t=s then x else f t
theorem yV{α:Type}(f:dU->α)(s:dU)(x:α):gI f s x s=x:=by simp[gI]
theorem Av{α:Type}(f:dU->α){s t:dU}(h:t≠s)(x:α):gI f s x t=f t:=by simp[gI,h]
def bS(it:aX)(j:Nat):aX:=⟨it.rule,it.read+1,it.fr,j⟩
def gq(st:bq)(it:aX):bq:=if it∈st.I then st else { st with I:=st.I++[it],O:=st.O++[it] }
def gN(R:List Ru)(s:dU):Nat->bq->bq
 |0,st=>st
 |k+1,st=>if (R.getD k (0,[])).1=s.1 then gq (gN R s k st) ⟨k,0,s.2,s.2⟩ else gN R s k st
def onE(it:aX)(L:List Nat)(st:bq):bq:=L.foldl (λst j=>gq st (bS it j)) st
def kI(j:Nat)(L:List aX)(st:bq):bq:=L.foldl (λst it=>gq st (bS it j)) st
def iZ(s:dU)(it:aX)(st:bq):bq:={ st with W:=gI st.W s (st.W s++[it]) }
def jH(s:dU)(j:Nat)(st:bq):bq:={ st with E:=gI st.E s (st.E s++[j]) }
def xI(R:List Ru)(s:dU)(it:aX)(st:bq):bq:=
 let st1:=if st.W s=[] then gN R s R.length st else st
 onE it (st.E s) (iZ s it st1)
def Aw(s:dU)(j:Nat)(st:bq):bq:=if j∈st.E s then st else kI j (st.W s) (jH s j st)
def jY(R:List Ru)(tok:List Int)(it:aX)(st:bq):bq:=
 if it.read=(R.getD it.rule (0,[])).2.length then Aw ((R.getD it.rule (0,[])).1,it.fr) it.upto st
 else if ((R.getD it.rule (0,[])).2.getD it.read (false,0)).1=false then xI R (((R.getD it.rule (0,[])).2.getD it.read (false,0)).2,it.upto) it st
 else if it.upto<tok.length/\tok.getD it.upto 0=((R.getD it.rule (0,[])).2.getD it.read (false,0)).2 then gq st (bS it (it.upto+1)) else st
def sU:List aX:=(List.range 40).flatMap λa=>(List.range 9).flatMap λb=>(List.range 31).flatMap λc=>(List.range 31).map λd=>⟨a,b,c,d⟩
theorem acd{it:aX}(h1:it.rule<40)(h2:it.read<9)(h3:it.fr<31)(h4:it.upto<31):it∈sU:=by
 unfold sU;simp only[Aa,jP,jC];exact⟨_,h1,_,h2,_,h3,_,h4,rfl⟩
theorem ace(k:Nat):∀n:Nat,((List.range n).map λ_=>k).sum=n*k:=by
 intro n
 induction n with
 |zero=>simp
 |succ n ih=>rw[pF,fD,Ab,ih,Nat.add_mul];simp
theorem acf:sU.length=345960:=by
 unfold sU;simp only[List.length_flatMap,cK,qR,ace]
def qB(I:List aX):Nat:=(sU.filter λx=>decide (x∉I)).length
theorem acg{x:aX}{I:List aX}(hI:x∉I):∀U:List aX,x∈U->(U.filter λy=>decide (y∉I++[x])).length+1<=(U.filter λy=>decide (y∉I)).length:=by
 have mono:∀U:List aX,(U.filter λy=>decide (y∉I++[x])).length<=(U.filter λy=>decide (y∉I)).length:=by
  intro U
  induction U with
  |nil=>simp
  |cons a U ih=>
   by_cases h1:a∈I
   ·have h2:a∈I++[x]:=by simp[h1]
    simpa [List.filter_cons,h1] using ih
   ·by_cases h2:a=x
    ·subst h2
     have h3:a∈I++[a]:=by simp
     simp only[vk,h1,h3,not_true_eq_false,not_false_eq_true,decide_true,decide_false,bQ,List.length_cons];simp only[dO,bN];omega
    ·have h3:a∉I++[x]:=by simp[h1,h2]
     simp only[vk,h1,h3,not_false_eq_true,decide_true,bQ,List.length_cons];omega
 intro U
 induction U with
 |nil=>intro h;cases h
 |cons a U ih=>
  intro h;by_cases h2:a=x
  ·subst h2
   have h3:a∈I++[a]:=by simp
   simp only[vk,hI,h3,not_true_eq_false,not_false_eq_true,decide_true,decide_false,bQ,List.length_cons];simp only[dO,bN];have:=mono U;omega
  ·have hU:x∈U:=by
    rcases iW.1 h with h|h
    ·exact absurd h.symm h2
    ·exact h
   have:=ih hU;by_cases h1:a∈I
   ·have h3:a∈I++[x]:=by simp[h1]
    simpa [List.filter_cons,h1] using this
   ·have h3:a∉I++[x]:=by simp[h1,h2]
    simp only[vk,h1,h3,not_false_eq_true,decide_true,bQ,List.length_cons];omega
theorem ach{x:aX}{I:List aX}(hI:x∉I)(hU:x∈sU):qB (I++[x])+1<=qB I:=acg hI _ hU
structure Puts(Q:aX->Prop)(st st':bq):Prop where
 W:st'.W=st.W
 E:st'.E=st.E
 c:st'.c=st.c
 mono:∀x∈st.I,x∈st'.I
 back:∀x∈st'.I,x∉st'.O->x∈st.I/\x∉st.O
 new:∀x∈st'.I,x∈st.I\/Q x
 sub:(∀x∈st.O,x∈st.I)->∀x∈st'.O,x∈st'.I
 cnt:st'.O.length+st.I.length=st.O.length+st'.I.length
 fit:(∀x,Q x->x∈sU)->st'.I.length+qB st'.I<=st.I.length+qB st.I
 len:st.I.length<=st'.I.length
section
variable{Q:aX->Prop}{st st':bq}
theorem Puts.refl(Q:aX->Prop)(st:bq):Puts Q st st:=⟨rfl,rfl,rfl,λ_ h=>h,λ_ h1 h2=>⟨h1,h2⟩,λ_ h=> .inl h,λh=>h,rfl,λ_=>ah _,ah _⟩
theorem Puts.trans{Uq:bq}(h:Puts Q st st')(k:Puts Q st' Uq):Puts Q st Uq:=
 ⟨k.W.trans h.W,k.E.trans h.E,k.c.trans h.c,λx hx=>k.mono x (h.mono x hx),λx h1 h2=>by obtain⟨a,b⟩:=k.back x h1 h2;exact h.back x a b,
   λx hx=>by rcases k.new x hx with a|a;exact h.new x a;exact .inr a,λhs=>k.sub (h.sub hs),by have:=h.cnt;have:=k.cnt;omega,λhq=>by have:=h.fit hq;have:=k.fit hq;omega,aZ h.len k.len⟩
theorem Puts.put{it:aX}(hq:Q it):Puts Q st (gq st it):=by
 unfold gq;split
 ·exact Puts.refl _ _
 ·rename_i hn
  refine⟨rfl,rfl,rfl,λx hx=>by simp[hx],λx h1 h2=> ?_,λx hx=> ?_,λhs x hx=> ?_,by simp;omega,λhU=> ?_,by simp⟩
  ·simp only[iV,gG,not_or]at h1 h2
   rcases h1 with h1|h1
   ·exact⟨h1,h2.1⟩
   ·exact absurd h1 h2.2
  ·simp only[iV,gG]at hx
   rcases hx with hx|rfl
   ·exact .inl hx
   ·exact .inr hq
  ·simp only[iV,gG]at hx⊢
   rcases hx with hx|hx
   ·exact .inl (hs x hx)
   ·exact .inr hx
  ·have:=ach hn (hU _ hq)
   simp only[aS,List.length_singleton];omega
theorem Kn(st:bq)(it:aX):it∈(gq st it).I:=by
 unfold gq;split
 ·assumption
 ·simp
theorem Puts.onE{it:aX}:∀{L:List Nat} {st:bq},(∀j∈L,Q (bS it j))->Puts Q st (onE it L st):=by
 intro L
 induction L with
 |nil=>intro st _;exact Puts.refl _ _
 |cons j L ih=>
  intro st h;exact(Puts.put (h j (by simp))).trans (ih (st:=gq st (bS it j)) λi hi=>h i (by simp[hi]))
theorem Puts.kI{j:Nat}:∀{L:List aX} {st:bq},(∀it∈L,Q (bS it j))->Puts Q st (kI j L st):=by
 intro L
 induction L with
 |nil=>intro st _;exact Puts.refl _ _
 |cons it L ih=>
  intro st h;exact(Puts.put (h it (by simp))).trans (ih (st:=gq st (bS it j)) λi hi=>h i (by simp[hi]))
theorem aci{it:aX}:∀{L:List Nat} {st:bq} {j:Nat},j∈L->bS it j∈(onE it L st).I:=by
 intro L
 induction L with
 |nil=>intro st j h;cases h
 |cons i L ih=>
  intro st j h;rcases iW.1 h with rfl|h
  ·exact(Puts.onE (Q:=λ_=>True) (L:=L) (st:=gq st (bS it j)) λ_ _=>trivial).mono _ (Kn _ _)
  ·exact ih h
theorem acj{j:Nat}:∀{L:List aX} {st:bq} {it:aX},it∈L->bS it j∈(kI j L st).I:=by
 intro L
 induction L with
 |nil=>intro st it h;cases h
 |cons i L ih=>
  intro st it h;rcases iW.1 h with rfl|h
  ·exact(Puts.kI (Q:=λ_=>True) (L:=L) (st:=gq st (bS it j)) λ_ _=>trivial).mono _ (Kn _ _)
  ·exact ih h
theorem Puts.begin{R:List Ru}{s:dU}:∀{k:Nat} {st:bq},(∀q,q<k->(R.getD q (0,[])).1=s.1->Q ⟨q,0,s.2,s.2⟩)->Puts Q st (gN R s k st):=by
 intro k
 induction k with
 |zero=>intro st _;exact Puts.refl _ _
 |succ k ih=>
  intro st h;have h0:=ih (st:=st) λq hq=>h q (by omega);unfold gN;split
  ·rename_i he
   exact h0.trans (Puts.put (h k (by omega) he))
  ·exact h0
theorem Ur{R:List Ru}{s:dU}:∀{k:Nat} {st:bq} {q:Nat},q<k->(R.getD q (0,[])).1=s.1->(⟨q,0,s.2,s.2⟩:aX)∈(gN R s k st).I:=by
 intro k
 induction k with
 |zero=>intro st q h;omega
 |succ k ih=>
  intro st q h he;unfold gN;by_cases hk:q=k
  ·subst hk
   rw[au he];exact Kn _ _
  ·have:=ih (st:=st) (q:=q) (by omega) he
   split
   ·exact(Puts.put (Q:=λ_=>True) trivial).mono _ this
   ·exact this
end
section
variable{R:List Ru}{tok:List Int}
def eF(R:List Ru)(it:aX):List Sy:=(R.getD it.rule (0,[])).2
structure jI(R:List Ru)(tok:List Int)(it:aX):Prop where
 rule:it.rule<R.length
 read:it.read<=(eF R it).length
 le:it.fr<=it.upto
 len:it.upto<=tok.length
 seq:oI (nQ R) ((eF R it).take it.read) (part tok it.fr it.upto)
theorem jI.all{it:aX}(h:jI R tok it)(hR:R.length<=40)(hr:∀q,q<R.length->(R.getD q (0,[])).2.length<=8)(ht:tok.length<=30):it∈sU:=by
 have h1:=h.rule;have h2:=h.read;have h3:=hr _ h.rule;have h4:=h.le;have h5:=h.len;unfold eF at h2;exact acd (by omega) (by omega) (by omega) (by omega)
def Done(R:List Ru)(tok:List Int)(st:bq)(it:aX):Prop:=
 if it.read=(eF R it).length then it.upto∈st.E ((R.getD it.rule (0,[])).1,it.fr)
 else if ((eF R it).getD it.read (false,0)).1=false then it∈st.W (((eF R it).getD it.read (false,0)).2,it.upto)
 else it.upto<tok.length/\tok.getD it.upto 0=((eF R it).getD it.read (false,0)).2->bS it (it.upto+1)∈st.I
def D5(R:List Ru)(st:bq)(s:dU):Prop:=∀q,q<R.length->(R.getD q (0,[])).1=s.1->(⟨q,0,s.2,s.2⟩:aX)∈st.I
structure jZ(R:List Ru)(tok:List Int)(X:aX->Prop)(st:bq):Prop where
 ok:∀it∈st.I,jI R tok it
 sub:∀it∈st.O,it∈st.I
 xJ:∀s it,it∈st.W s->it∈st.I/\it.read<(eF R it).length/\(eF R it).getD it.read (false,0)=(false,s.1)/\it.upto=s.2
 vL:∀s j,j∈st.E s->s.2<=j/\j<=tok.length/\nQ R s.1 (part tok s.2 j)
 done:∀it∈st.I,it∉st.O->X it\/Done R tok st it
 meet:∀s it j,it∈st.W s->j∈st.E s->bS it j∈st.I
 begun:∀s,st.W s≠[]->D5 R st s
theorem Done.mono{st st':bq}{it:aX}(h:Done R tok st it)(hI:∀x∈st.I,x∈st'.I)(hW:∀s,∀x∈st.W s,x∈st'.W s)(hE:∀s,∀x∈st.E s,x∈st'.E s):Done R tok st' it:=by
 unfold Done at h⊢;split
 ·rename_i h1;rw[au h1]at h;exact hE _ _ h
 ·rename_i h1
  rw[aj h1]at h;split
  ·rename_i h2;rw[au h2]at h;exact hW _ _ h
  ·rename_i h2;rw[aj h2]at h;exact λh3=>hI _ (h h3)
theorem Us{A:Int->List Int->Prop}:∀{l m:List Sy} {Z Z':List Int},oI A l Z->oI A m Z'->oI A (l++m) (Z++Z'):=by
 intro l
 induction l with
 |nil=>intro m Z Z' h h';have e:Z=[]:=h;subst e;exact h'
 |cons s l ih=>
  intro m Z Z' h h';obtain⟨b,n⟩:=s;cases b with
  |true=>obtain⟨Y,h1,h2⟩:=h;exact⟨Y++Z',by rw[h1];rfl,ih h2 h'⟩
  |false=>obtain⟨Z1,Z2,h1,h2,h3⟩:=h;exact⟨Z1,Z2++Z',by rw[h1,mG],h2,ih h3 h'⟩
theorem Ut{l:List Sy}{k:Nat}(h:k<l.length):l.take (k+1)=l.take k++[l.getD k (false,0)]:=by
 rw[fT h];simp[List.getD,h]
theorem Oj{q:Nat}{i:Nat}(hq:q<R.length)(hi:i<=tok.length):jI R tok ⟨q,0,i,i⟩:=
 ⟨hq,aP _,ah _,hi,by simp only[List.take_zero];exact Um _ _⟩
theorem Ko{it:aX}(h:jI R tok it){n:Int}{j:Nat}(hr:it.read<(eF R it).length)(hs:(eF R it).getD it.read (false,0)=(false,n))(h1:it.upto<=j)(h2:j<=tok.length)(hd:nQ R n (part tok it.upto j)):jI R tok (bS it j):=by
 refine⟨h.rule,hr,aZ h.le h1,h2,?_⟩;show oI (nQ R) ((eF R it).take (it.read+1)) (part tok it.fr j);rw[Ut hr,hs,Oi h.le h1];exact Us h.seq ⟨_,[],by simp,hd,rfl⟩
theorem Uu{it:aX}(h:jI R tok it)(hr:it.read<(eF R it).length)(hs:((eF R it).getD it.read (false,0)).1=true)(h1:it.upto<tok.length)(h2:tok.getD it.upto 0=((eF R it).getD it.read (false,0)).2):jI R tok (bS it (it.upto+1)):=by
 refine⟨h.rule,hr,yJ h.le,h1,?_⟩;show oI (nQ R) ((eF R it).take (it.read+1)) (part tok it.fr (it.upto+1));rw[Ut hr,Oi h.le (nK _),Uo (Nat.lt_succ_self _) h1,Um,h2];obtain⟨⟨b,v⟩,hx⟩:=af ((eF R it).getD it.read (false,0));rw[hx]at hs⊢;simp only at hs;subst hs;exact Us h.seq ⟨[],rfl,rfl⟩
theorem Uv{it:aX}(h:jI R tok it)(hr:it.read=(eF R it).length):nQ R (R.getD it.rule (0,[])).1 (part tok it.fr it.upto):=by
 have:=h.seq;rw[hr,gH]at this;exact ab8 (by simp[List.getD,h.rule]) this
theorem jZ.puts{X:aX->Prop}{st st':bq}(h:jZ R tok X st)(k:Puts (jI R tok) st st'):jZ R tok X st':=by
 refine⟨λit hi=> ?_,k.sub h.sub,λs it hw=> ?_,λs j hj=>h.vL s j (by rw[<-k.E];exact hj),λit hi ho=> ?_,λs it j hw hj=> ?_,λs hs q hq he=> ?_⟩
 ·rcases k.new it hi with h1|h1
  ·exact h.ok it h1
  ·exact h1
 ·rw[k.W]at hw
  obtain⟨a,b⟩:=h.xJ s it hw;exact⟨k.mono _ a,b⟩
 ·obtain⟨a,b⟩:=k.back it hi ho
  rcases h.done it a b with h1|h1
  ·exact .inl h1
  ·exact .inr (h1.mono k.mono (λs x hx=>by rw[k.W];exact hx) (λs x hx=>by rw[k.E];exact hx))
 ·rw[k.W]at hw
  rw[k.E]at hj;exact k.mono _ (h.meet s it j hw hj)
 ·rw[k.W]at hs
  exact k.mono _ (h.begun s hs q hq he)
theorem jZ.wait{it:aX}{st:bq}(h:jZ R tok (λx=>x=it) st)(hit:it∈st.I){n:Int}(hr:it.read<(eF R it).length)(hs:(eF R it).getD it.read (false,0)=(false,n)):
 jZ R tok (λ_=>False) (xI R (n,it.upto) it st):=by
 have hok:=h.ok it hit;obtain⟨st1,h1⟩:=af ((if st.W (n,it.upto)=[] then gN R (n,it.upto) R.length st else st))
 have hp1:Puts (jI R tok) st st1:=by
  rw[<-h1];split
  ·exact Puts.begin λq hq _=>Oj hq hok.len
  ·exact Puts.refl _ _
 have hB:D5 R st1 (n,it.upto):=by
  rw[<-h1];split
  ·exact λq hq he=>Ur hq he
  ·rename_i hne
   exact h.begun _ hne
 have hc1:=h.puts hp1
 have hQ:∀j∈st.E (n,it.upto),jI R tok (bS it j):=λj hj=>by
  obtain⟨a,b,c⟩:=h.vL _ j hj;exact Ko hok hr hs a b c
 have hp2:Puts (jI R tok) (iZ (n,it.upto) it st1) (onE it (st.E (n,it.upto)) (iZ (n,it.upto) it st1)):=Puts.onE hQ
 have hcond:∀s x,x∈(iZ (n,it.upto) it st1).W s->x∈st1.W s\/(s=(n,it.upto)/\x=it):=by
  intro s x hx;unfold iZ at hx;simp only at hx;by_cases e:s=(n,it.upto)
  ·rw[e,yV,iV,gG]at hx
   rcases hx with hx|hx
   ·rw[e];exact .inl hx
   ·exact .inr ⟨e,hx⟩
  ·rw[Av _ e]at hx
   exact .inl hx
 have hup:∀s x,x∈st1.W s->x∈(iZ (n,it.upto) it st1).W s:=by
  intro s x hx;unfold iZ;simp only;by_cases e:s=(n,it.upto)
  ·subst e;rw[yV];simp[hx]
  ·rw[Av _ e];exact hx
 have hin:it∈(iZ (n,it.upto) it st1).W (n,it.upto):=by
  unfold iZ;simp[yV]
 unfold xI;simp only[h1];obtain⟨yX,h3⟩:=af (onE it (st.E (n,it.upto)) (iZ (n,it.upto) it st1));have hmo:∀x∈st1.I,x∈yX.I:=by rw[<-h3];exact hp2.mono
 have hW3:yX.W=(iZ (n,it.upto) it st1).W:=by rw[<-h3];exact hp2.W
 have Ay:yX.E=st1.E:=by rw[<-h3];exact hp2.E
 have hme:∀j∈st.E (n,it.upto),bS it j∈yX.I:=λj hj=>by rw[<-h3];exact aci hj
 have hback:=hp2.back;have hnew:=hp2.new;have hsub:=hp2.sub hc1.sub;rw[h3]at hback hnew hsub⊢;refine⟨λx hx=> ?_,hsub,λs x hx=> ?_,λs j hj=>hc1.vL s j (by rw[<-Ay];exact hj),λx hx ho=> ?_,λs x j hx hj=> ?_,λs hs' q hq he=> ?_⟩
 ·rcases hnew x hx with h4|h4
  ·exact hc1.ok x h4
  ·exact h4
 ·rw[hW3]at hx
  rcases hcond s x hx with h4|⟨rfl,rfl⟩
  ·obtain⟨a,b⟩:=hc1.xJ s x h4
   exact⟨hmo _ a,b⟩
  ·exact⟨hmo _ (hp1.mono _ hit),hr,hs,rfl⟩
 ·right
  obtain⟨a,b⟩:=hback x hx ho;rcases hc1.done x a b with h4|h4
  ·subst h4
   unfold Done;rw[aj (by omega),hs];simp only[bQ];rw[hW3];exact hin
  ·exact h4.mono hmo (λs x hx=>by rw[hW3];exact hup s x hx) (λs x hx=>by rw[Ay];exact hx)
 ·rw[hW3]at hx
  rw[Ay]at hj;rcases hcond s x hx with h4|⟨rfl,rfl⟩
  ·exact hmo _ (hc1.meet s x j h4 hj)
  ·rw[hp1.E]at hj
   exact hme j hj
 ·rw[hW3]at hs'
  by_cases e:s=(n,it.upto)
  ·subst e;exact hmo _ (hB q hq he)
  ·unfold iZ at hs'
   simp only at hs';rw[Av _ e]at hs';exact hmo _ (hc1.begun s hs' q hq he)
theorem jZ.ack{it:aX}{st:bq}(h:jZ R tok (λx=>x=it) st)(hit:it∈st.I)(hr:it.read=(eF R it).length):
 jZ R tok (λ_=>False) (Aw ((R.getD it.rule (0,[])).1,it.fr) it.upto st):=by
 have hok:=h.ok it hit;have hd:=Uv hok hr;obtain⟨n,hn⟩:=af ((R.getD it.rule (0,[])).1);rw[hn]at hd;unfold Aw;rw[hn];split
 ·rename_i hin
  refine⟨h.ok,h.sub,h.xJ,h.vL,λx hx ho=> ?_,h.meet,h.begun⟩;rcases h.done x hx ho with rfl|h4
  ·right
   unfold Done;rw[au hr,hn];exact hin
  ·exact .inr h4
 ·have hQ:∀x∈st.W (n,it.fr),jI R tok (bS x it.upto):=λx hx=>by
   obtain⟨a,b,c,d⟩:=h.xJ _ x hx;have e:x.upto=it.fr:=d;exact Ko (h.ok x a) b c (by rw[e];exact hok.le) hok.len (by rw[e];exact hd)
  have hp2:Puts (jI R tok) (jH (n,it.fr) it.upto st) (kI it.upto (st.W (n,it.fr)) (jH (n,it.fr) it.upto st)):=Puts.kI hQ
  have hcond:∀s j,j∈(jH (n,it.fr) it.upto st).E s->j∈st.E s\/(s=(n,it.fr)/\j=it.upto):=by
   intro s x hx;unfold jH at hx;simp only at hx;by_cases e:s=(n,it.fr)
   ·rw[e,yV,iV,gG]at hx
    rcases hx with hx|hx
    ·rw[e];exact .inl hx
    ·exact .inr ⟨e,hx⟩
   ·rw[Av _ e]at hx
    exact .inl hx
  have hup:∀s j,j∈st.E s->j∈(jH (n,it.fr) it.upto st).E s:=by
   intro s x hx;unfold jH;simp only;by_cases e:s=(n,it.fr)
   ·subst e;rw[yV];simp[hx]
   ·rw[Av _ e];exact hx
  have hin:it.upto∈(jH (n,it.fr) it.upto st).E (n,it.fr):=by
   unfold jH;simp[yV]
  obtain⟨yX,h3⟩:=af (kI it.upto (st.W (n,it.fr)) (jH (n,it.fr) it.upto st));have hmo:∀x∈st.I,x∈yX.I:=by rw[<-h3];exact hp2.mono
  have Ay:yX.E=(jH (n,it.fr) it.upto st).E:=by rw[<-h3];exact hp2.E
  have hW3:yX.W=st.W:=by rw[<-h3];exact hp2.W
  have hme:∀x∈st.W (n,it.fr),bS x it.upto∈yX.I:=λx hx=>by rw[<-h3];exact acj hx
  have hback:=hp2.back;have hnew:=hp2.new;have hsub:=hp2.sub h.sub;rw[h3]at hback hnew hsub⊢;refine⟨λx hx=> ?_,hsub,λs x hx=> ?_,λs j hj=> ?_,λx hx ho=> ?_,λs x j hx hj=> ?_,λs hs' q hq he=> ?_⟩
  ·rcases hnew x hx with h4|h4
   ·exact h.ok x h4
   ·exact h4
  ·rw[hW3]at hx
   obtain⟨a,b⟩:=h.xJ s x hx;exact⟨hmo _ a,b⟩
  ·rw[Ay]at hj
   rcases hcond s j hj with h4|⟨rfl,rfl⟩
   ·exact h.vL s j h4
   ·exact⟨hok.le,hok.len,hd⟩
  ·right
   obtain⟨a,b⟩:=hback x hx ho;rcases h.done x a b with h4|h4
   ·subst h4
    unfold Done;rw[au hr,hn,Ay];exact hin
   ·exact h4.mono hmo (λs x hx=>by rw[hW3];exact hx) (λs x hx=>by rw[Ay];exact hup s x hx)
  ·rw[hW3]at hx
   rw[Ay]at hj;rcases hcond s j hj with h4|⟨rfl,rfl⟩
   ·exact hmo _ (h.meet s x j hx h4)
   ·exact hme x hx
  ·rw[hW3]at hs'
   exact hmo _ (h.begun s hs' q hq he)
theorem jZ.look{it:aX}{st:bq}(h:jZ R tok (λx=>x=it) st)(hit:it∈st.I):jZ R tok (λ_=>False) (jY R tok it st):=by
 have hok:=h.ok it hit;have hread:=hok.read;unfold jY;split
 ·rename_i hr
  exact h.ack hit hr
 ·rename_i hr
  have hr':it.read<(eF R it).length:=by unfold eF at hread⊢;omega
  split
  ·rename_i hs
   refine h.wait hit hr' ?_;unfold eF;exact Prod.ext hs rfl
  ·rename_i hs
   have hs':((eF R it).getD it.read (false,0)).1=true:=by unfold eF;simpa using hs
   split
   ·rename_i hc
    have hp:Puts (jI R tok) st (gq st (bS it (it.upto+1))):=Puts.put (Uu hok hr' hs' hc.1 hc.2);have:=h.puts hp;refine⟨this.ok,this.sub,this.xJ,this.vL,λx hx ho=> ?_,this.meet,this.begun⟩;right;rcases this.done x hx ho with rfl|h4
    ·unfold Done
     rw[aj (by omega),aj (by rw[hs'];simp)];exact λ_=>Kn _ _
    ·exact h4
   ·rename_i hc
    refine⟨h.ok,h.sub,h.xJ,h.vL,λx hx ho=> ?_,h.meet,h.begun⟩;right;rcases h.done x hx ho with rfl|h4
    ·unfold Done
     rw[aj (by omega),aj (by rw[hs'];simp)];exact λhc'=>absurd hc' hc
    ·exact h4
theorem jZ.find{st:bq}(h:jZ R tok (λ_=>False) st)(hO:st.O=[]):∀k (s:dU) (j:Nat),D5 R st s->s.2<=j->j<=tok.length->xH R k s.1 (part tok s.2 j)->j∈st.E s:=by
 have hdone:∀it∈st.I,Done R tok st it:=λit hi=>by
  rcases h.done it hi (by rw[hO];simp) with h1|h1
  ·exact h1.elim
  ·exact h1
 intro k
 induction k with
 |zero=>intro s j _ _ _ hd;exact hd.elim
 |succ k ih=>
  have inner:∀(m:Nat) (it:aX),it∈st.I->(eF R it).length-it.read=m->∀j,it.upto<=j->j<=tok.length->oI (xH R k) ((eF R it).drop it.read) (part tok it.upto j)->j∈st.E ((R.getD it.rule (0,[])).1,it.fr):=by
   intro m
   induction m with
   |zero=>
    intro it hi hm j h1 h2 hd;have hread:=(h.ok it hi).read;have he:it.read=(eF R it).length:=by omega
    rw[he,List.drop_length]at hd;have hd':part tok it.upto j=[]:=hd;have hl:=Km (tok:=tok) h1 h2;rw[hd']at hl;simp only[List.length_nil]at hl;have hj:j=it.upto:=by omega
    subst hj;have:=hdone it hi;unfold Done at this;rw[au he]at this;exact this
   |succ m Uw=>
    intro it hi hm j h1 h2 hd;have hr:it.read<(eF R it).length:=by omega
    rw[wO hr]at hd;have hg:(eF R it)[it.read]=(eF R it).getD it.read (false,0):=by simp[List.getD,hr]
    rw[hg]at hd;have hDn:=hdone it hi;unfold Done at hDn;rw[aj (by omega)]at hDn;obtain⟨⟨b,v⟩,hsy⟩:=af ((eF R it).getD it.read (false,0));rw[hsy]at hd hDn;cases b with
    |true=>
     rw[aj (by simp)]at hDn;obtain⟨Z',e1,e2⟩:=hd;have hl:=Km (tok:=tok) h1 h2;rw[e1]at hl;simp only[List.length_cons]at hl;have hlt:it.upto<j:=by omega
     rw[Uo hlt h2]at e1;simp only[List.cons.injEq]at e1;obtain⟨e3,rfl⟩:=e1;have hin:=hDn ⟨by omega,e3⟩;exact Uw (bS it (it.upto+1)) hin (by show (eF R it).length-(it.read+1)=m;omega) j hlt h2 e2
    |false=>
     rw[au rfl]at hDn;obtain⟨Z1,Z2,e1,e2,e3⟩:=hd;obtain⟨a1,a2,a3⟩:=ab9 h1 h2 e1;rw[a2]at e2;rw[a3]at e3
     have hW:st.W (v,it.upto)≠[]:=λe=>by
      have h5:it∈st.W (v,it.upto):=hDn;rw[e]at h5;cases h5
     have hj:=ih (v,it.upto) (it.upto+Z1.length) (h.begun _ hW) (by show it.upto<=_;omega) (by omega) (by simpa using e2);have hin:=h.meet _ it _ hDn hj;exact Uw (bS it (it.upto+Z1.length)) hin (by show (eF R it).length-(it.read+1)=m;omega) j a1 h2 e3
  rintro s j hb h1 h2 ⟨r,hr,he,hd⟩;obtain⟨q,hq,hqe⟩:=kE hr;have hg:R.getD q (0,[])=r:=by simp[List.getD,hq,hqe]
  have hin:=hb q hq (by rw[hg];exact he)
  have:=inner _ ⟨q,0,s.2,s.2⟩ hin rfl j h1 h2 (by
   show oI (xH R k) ((eF R ⟨q,0,s.2,s.2⟩).drop 0) (part tok s.2 j);unfold eF;rw[om];simp only;rw[hg]
   exact hd)
  simp only at this;rw[hg,he]at this;exact this
theorem jZ.tells{st:bq}(h:jZ R tok (λ_=>False) st)(hO:st.O=[])(hb:D5 R st (0,0)):tok.length∈st.E (0,0)↔nQ R 0 tok:=by
 constructor
 ·intro hj
  have:=(h.vL _ _ hj).2.2;rw[Un]at this;exact this
 ·rintro ⟨k,hk⟩
  exact h.find hO k (0,0) tok.length hb (aP _) (ah _) (by simp only;rw[Un];exact hk)
structure vM(st:bq):Prop where
 cnt:st.c+st.O.length=st.I.length
 fit:st.I.length+qB st.I<=345960
 wl:∀s,(st.W s).length<=st.c
 el:∀s,(st.E s).length<=st.c
theorem vM.puts{Q:aX->Prop}{st st':bq}(h:vM st)(k:Puts Q st st')(hQ:∀x,Q x->x∈sU):vM st':=
 ⟨by have:=h.cnt;have:=k.cnt;have:=k.c;omega,aZ (k.fit hQ) h.fit,λs=>by rw[k.W,k.c];exact h.wl s,λs=>by rw[k.E,k.c];exact h.el s⟩
def lG(st:bq):bq:={ st with O:=st.O.dropLast,c:=st.c+1 }
def fE(st:bq):aX:=st.O.getD (st.O.length-1) ⟨0,0,0,0⟩
theorem Ux{st:bq}(h:0<st.O.length):st.O=st.O.dropLast++[fE st]:=by
 have hne:st.O≠[]:=λe=>by rw[e]at h;simp at h
 have e:fE st=st.O.getLast hne:=by
  unfold fE;rw[List.getLast_eq_getElem];simp[List.getD,show st.O.length-1<st.O.length by omega]
 rw[e];exact(List.dropLast_concat_getLast hne).symm
theorem jZ.pop{st:bq}(h:jZ R tok (λ_=>False) st)(hO:0<st.O.length):fE st∈st.I/\jZ R tok (λx=>x=fE st) (lG st):=by
 have e:=Ux hO;refine⟨h.sub _ (by rw[e];simp),h.ok,λx hx=>h.sub x (by rw[e];exact Dw _ hx),h.xJ,h.vL,λx hx ho=> ?_,h.meet,h.begun⟩;by_cases hx':x=fE st
 ·exact .inl hx'
 ·rcases h.done x hx (by rw[e];simp only[iV,gG,not_or];exact⟨ho,hx'⟩) with h1|h1
  ·exact h1.elim
  ·exact .inr h1
theorem Uy{α:Type}{f:dU->List α}{s t:dU}{x:α}{c:Nat}(h:∀s,(f s).length<=c):(gI f s (f s++[x]) t).length<=c+1:=by
 by_cases e:t=s
 ·subst e;rw[yV];have:=h t;simp;omega
 ·rw[Av _ e];have:=h t;omega
structure Less(st st':bq):Prop where
 bnd:vM st'
 less:2*qB st'.I+st'.O.length<2*qB st.I+st.O.length
 mono:∀x∈st.I,x∈st'.I
 c:st'.c=st.c+1
theorem Gs{st st':bq}{O:List aX}(h:vM st)(hO:st.O.length=O.length+1)(hI:st'.I.length+qB st'.I<=st.I.length+qB st.I)(hc:st'.c=st.c+1)(hl:st'.O.length+st.I.length=O.length+st'.I.length)
 (hw:∀s,(st'.W s).length<=st.c+1) (he:∀s,(st'.E s).length<=st.c+1) (hm:∀x∈st.I,x∈st'.I) (hle:st.I.length<=st'.I.length):Less st st':=by
 have:=h.cnt;have:=h.fit;exact⟨⟨by omega,by omega,λs=>by rw[hc];exact hw s,λs=>by rw[hc];exact he s⟩,by omega,hm,hc⟩
theorem acn{st:bq}(hb:vM st)(h:jZ R tok (λ_=>False) st)(hO:0<st.O.length)(hall:∀it,jI R tok it->it∈sU):Less st (jY R tok (fE st) (lG st)):=by
 obtain⟨hit,hc⟩:=h.pop hO;have hok:=h.ok _ hit;have hread:=hok.read;have D6:st.O.length=st.O.dropLast.length+1:=by simp;omega
 have hW:=hb.wl;have hE:=hb.el;unfold jY;split
 ·rename_i hr
  have hd:=Uv hok hr;unfold Aw;split
  ·exact Gs hb D6 (ah _) rfl rfl (λs=>yJ (hW s)) (λs=>yJ (hE s)) (λ_ h=>h) (ah _)
  ·have hp:=Puts.kI (Q:=jI R tok) (j:=(fE st).upto) (L:=(lG st).W ((R.getD (fE st).rule (0,[])).1,(fE st).fr)) (st:=jH ((R.getD (fE st).rule (0,[])).1,(fE st).fr) (fE st).upto (lG st)) λx hx=>by
    obtain⟨a,b,c,d⟩:=hc.xJ _ x hx;have e:x.upto=(fE st).fr:=d;exact Ko (hc.ok x a) b c (by rw[e];exact hok.le) hok.len (by rw[e];exact hd)
   exact Gs hb D6 (hp.fit hall) hp.c hp.cnt (λs=>by rw[hp.W];exact yJ (hW s)) (λs=>by rw[hp.E];exact Uy hE) hp.mono hp.len
 ·rename_i hr
  have hr':(fE st).read<(eF R (fE st)).length:=by unfold eF at hread⊢;omega
  split
  ·rename_i hs
   obtain⟨st1,h1⟩:=af ((if (lG st).W (((R.getD (fE st).rule (0,[])).2.getD (fE st).read (false,0)).2,(fE st).upto)=[] then gN R (((R.getD (fE st).rule (0,[])).2.getD (fE st).read (false,0)).2,(fE st).upto) R.length (lG st) else lG st))
   have hp1:Puts (jI R tok) (lG st) st1:=by
    rw[<-h1];split
    ·exact Puts.begin λq hq _=>Oj hq hok.len
    ·exact Puts.refl _ _
   unfold xI;simp only[h1]
   have hp:=Puts.onE (Q:=jI R tok) (it:=fE st) (L:=(lG st).E (((R.getD (fE st).rule (0,[])).2.getD (fE st).read (false,0)).2,(fE st).upto)) (st:=iZ (((R.getD (fE st).rule (0,[])).2.getD (fE st).read (false,0)).2,(fE st).upto) (fE st) st1) λj hj=>by
    obtain⟨a,b,c⟩:=hc.vL _ j hj;exact Ko hok hr' (Prod.ext hs rfl) a b c
   have f1:=hp1.fit hall;have f2:=hp.fit hall;have n1:=hp1.cnt;have n2:=hp.cnt
   exact Gs hb D6 (aZ f2 f1) (hp.c.trans hp1.c) (by have e1:(lG st).O=st.O.dropLast:=rfl;have e2:(lG st).I=st.I:=rfl;rw[e1,e2]at n1;have e3:∀s,(iZ s (fE st) st1).O=st1.O:=λ_=>rfl;have e4:∀s,(iZ s (fE st) st1).I=st1.I:=λ_=>rfl;rw[e3,e4]at n2;omega)
    (λs=>by
      rw[hp.W];have:∀s,(st1.W s).length<=st.c:=λs=>by rw[hp1.W];exact hW s
      exact Uy this) (λs=>by rw[hp.E];show (st1.E s).length<=_;rw[hp1.E];exact yJ (hE s)) (λx hx=>hp.mono x (hp1.mono x hx)) (aZ hp1.len hp.len)
  ·rename_i hs
   have hs':((eF R (fE st)).getD (fE st).read (false,0)).1=true:=by unfold eF;simpa using hs
   split
   ·rename_i hcd
    have hp:Puts (jI R tok) (lG st) (gq (lG st) (bS (fE st) ((fE st).upto+1))):=Puts.put (Uu hok hr' hs' hcd.1 hcd.2);exact Gs hb D6 (hp.fit hall) hp.c hp.cnt (λs=>by rw[hp.W];exact yJ (hW s)) (λs=>by rw[hp.E];exact yJ (hE s)) hp.mono hp.len
   ·exact Gs hb D6 (ah _) rfl rfl (λs=>yJ (hW s)) (λs=>yJ (hE s)) (λ_ h=>h) (ah _)
def cs0:bq:=⟨[],[],λ_=>[],λ_=>[],0⟩
theorem Uz(R:List Ru)(tok:List Int):jZ R tok (λ_=>False) (gN R (0,0) R.length cs0)/\D5 R (gN R (0,0) R.length cs0) (0,0)/\Puts (jI R tok) cs0 (gN R (0,0) R.length cs0):=by
 have hp:Puts (jI R tok) cs0 (gN R (0,0) R.length cs0):=Puts.begin λq hq _=>Oj hq (aP _);have h0:jZ R tok (λ_=>False) cs0:=⟨λ_ h=>(by cases h),λ_ h=>(by cases h),λ_ _ h=>(by cases h),λ_ _ h=>(by cases h),λ_ h=>(by cases h),λ_ _ _ h=>(by cases h),λ_ h=>absurd rfl h⟩;exact⟨h0.puts hp,λq hq he=>Ur hq he,hp⟩
theorem aco{R:List Ru}{tok:List Int}(hall:∀it,jI R tok it->it∈sU):vM (gN R (0,0) R.length cs0):=by
 have h1:qB cs0.I<=345960:=by
  unfold qB;rw[<-acf];exact vv _ _
 have h0:vM cs0:=⟨rfl,by rw[show cs0.I.length=0 from rfl,eO];exact h1,λ_=>ah _,λ_=>ah _⟩;exact h0.puts (Uz R tok).2.2 hall
end
end Go.Proofs.YthbifaoaiggooaaGreatDoor
namespace Go.Proofs.YthbifaoaiggooaaGreatDoor
open Go.RowKit Go.MapKept
open Go.ChangeMaps (setBlock heap_setBlock_same heap_setBlock_other modify_eq_set)
open Go.WideMaps (KeyLaw)
open Go.WideElems (Fit rd rd_mk other_key entry_then_store)
section
variable{κ:Type}{P:Program}{k:TypeId}{enc:κ->Value}
structure Gt(P:Program)(k:TypeId)(enc:κ->Value)(es:Array MapEntry)(clock n:Nat)(M:κ->Option Value):Prop where
 stamped:Stamped es clock
 size:es.size<=n
 keys:∀x∈es.toList,∃l,keyOf P k x.key=some l
 here:∀x∈es.toList,∃s,x.key=enc s/\M s=some x.val
 all:∀s v,M s=some v->∃x∈es.toList,x.key=enc s
def MapAt(P:Program)(k:TypeId)(enc:κ->Value)(w:World)(b n:Nat)(M:κ->Option Value):Prop:=
 ∃es clock,w.heap[b]?=some (.map es clock)/\Gt P k enc es clock n M
def gX[DecidableEq κ](M:κ->Option Value)(s:κ)(v:Value):κ->Option Value:=λt=>if t=s then some v else M t
theorem Gt.fit{es:Array MapEntry}{clock n:Nat}{M:κ->Option Value}(h:Gt P k enc es clock n M)(hn:n<=maxLen):Fit (H:=Unit) P k (λ_=>some (.nil,[])) es clock:=
 ⟨aZ h.size hn,h.stamped,λx hx=>by obtain⟨l,hl⟩:=h.keys x hx;exact⟨_,rd_mk (born:=x.born) hl rfl⟩⟩
theorem MapAt.lt{w:World}{b n:Nat}{M:κ->Option Value}(h:MapAt P k enc w b n M):b<w.heap.size:=by
 obtain⟨es,clock,hb,_⟩:=h;exact(dx.1 hb).1
theorem MapAt.kept{w w':World}{b n:Nat}{M:κ->Option Value}(h:MapAt P k enc w b n M)(hb:w'.heap[b]?=w.heap[b]?):MapAt P k enc w' b n M:=by
 obtain⟨es,clock,h1,h2⟩:=h;exact⟨es,clock,hb.trans h1,h2⟩
theorem MapAt.alloc{w:World}{b n:Nat}{M:κ->Option Value}(h:MapAt P k enc w b n M)(o:Obj):MapAt P k enc (w.alloc o) b n M:=
 h.kept ((World.grownBy_alloc w o none).block b h.lt (by simp))
theorem MapAt.mono{w:World}{b n n':Nat}{M:κ->Option Value}(h:MapAt P k enc w b n M)(hn:n<=n'):MapAt P k enc w b n' M:=by
 obtain⟨es,clock,h1,h2⟩:=h;exact⟨es,clock,h1,⟨h2.stamped,aZ h2.size hn,h2.keys,h2.here,h2.all⟩⟩
theorem MapAt.congr{w:World}{b n:Nat}{M M':κ->Option Value}(h:MapAt P k enc w b n M)(e:M=M'):MapAt P k enc w b n M':=e▸h
theorem Gv(w:World)(P:Program)(k:TypeId)(enc:κ->Value):MapAt P k enc (w.alloc (.map #[] 0)) w.heap.size 0 (λ_=>none):=
 ⟨#[],0,(MapKept.heap_alloc w _).1,stamped_empty 0,by simp,by simp,by simp,λ_ _ h=>by cases h⟩
theorem Gw{w:World}{b n:Nat}{M:κ->Option Value}(h:MapAt P k enc w b n M)(c:Bool)(hn:n<=maxLen)(K:KeyLaw P k){t e:TypeId}(ht:P.underlying t=some (.map k e)){z:Value}(hz:(zeroValue e).run P w= .ok z w)
 (inj:∀s s',enc s=enc s'->s=s') {s:κ} {kl:Lit} (hkey:keyOf P k (enc s)=some kl):
 (Instr.lookup t (.map (some b)) (enc s) c).run P w= .ok (if c then .tuple #[(M s).getD z,.bool (M s).isSome] else (M s).getD z) w:=by
 obtain⟨es,clock,hb,hM⟩:=h;rcases Maps.fit_look c (Maps.Keyed.of_law K) ht hz hb (hM.fit hn) hkey with⟨hrun,hno,_⟩|⟨e0,y,hmem,hk0,hrun,_⟩
 ·have:M s=none:=by
   cases hs:M s with
   |none=>rfl
   |some v=>
    obtain⟨x,hx,hxk⟩:=hM.all s v hs;exact absurd hxk (hno x hx)
  rw[hrun,this];rfl
 ·obtain⟨s',h1,h2⟩:=hM.here e0 hmem
  have:s=s':=inj _ _ (hk0.symm.trans h1);subst this;rw[hrun,h2];rfl
variable[DecidableEq κ]
theorem UA{w:World}{b n:Nat}{M:κ->Option Value}{es:Array MapEntry}{clock:Nat}(hb:w.heap[b]?=some (.map es clock))(hM:Gt P k enc es clock n M)(K:KeyLaw P k){t e:TypeId}(ht:P.underlying t=some (.map k e))
 (inj:∀s s',enc s=enc s'->s=s') {s:κ} {kl:Lit} (hkey:keyOf P k (enc s)=some kl) (val:Value):
 ∃es' clock',(Instr.mapUpdate t (.map (some b)) (enc s) val).run P w= .ok () (setBlock w b (.map es' clock'))/\Gt P k enc es' clock' (n+1) (gX M s val):=by
 rcases K.find w hkey es.toList hM.keys with⟨h1,h2⟩|⟨j,e0,h1,h2,h3⟩
 ·refine⟨es.push ⟨enc s,val,clock⟩,clock+1,?_,stamped_push hM.stamped h2,?_,?_,?_,?_⟩
  ·simp[Instr.mapUpdate,run_underlying ht,MapKept.run_getObj_map hb,K.check w false hkey,h1,MapKept.run_setObj_map _ hb,Result.andThen,setBlock]
  ·have:=hM.size;simp;omega
  ·intro x hx
   simp only[Array.toList_push,iV,gG]at hx;rcases hx with hx|rfl
   ·exact hM.keys x hx
   ·exact⟨_,hkey⟩
  ·intro x hx
   simp only[Array.toList_push,iV,gG]at hx;rcases hx with hx|rfl
   ·obtain⟨s',a,b⟩:=hM.here x hx
    have hne:s'≠s:=λe=>h2 x hx (by rw[a,e]);exact⟨s',a,by simp[gX,hne,b]⟩
   ·exact⟨s,rfl,by simp[gX]⟩
  ·intro s' v hv
   by_cases e1:s'=s
   ·subst e1
    exact⟨⟨enc s',val,clock⟩,by simp,rfl⟩
   ·simp only[gX,e1,bN]at hv
    obtain⟨x,hx,hk⟩:=hM.all s' v hv;exact⟨x,by simp[hx],hk⟩
 ·have hj:es[j]?=some e0:=by simpa using h2
  have hjl:j<es.toList.length:=(qw.1 h2).1;have hkeyf:∀e',es[j]?=some e'->({ e' with key:=enc s,val:=val }:MapEntry).key=e'.key:=λe' he'=>by rw[hj]at he';cases he';exact h3.symm
  have hlist:(es.modify j (λe'=>{ e' with key:=enc s,val:=val })).toList=es.toList.set j { e0 with key:=enc s,val:=val }:=by rw[Array.toList_modify,modify_eq_set _ _ _ _ h2]
  have hpw:=((stamped_iff es clock).1 hM.stamped).2.2
  have who:∀x∈es.toList.set j { e0 with key:=enc s,val:=val },x={ e0 with key:=enc s,val:=val }\/(x∈es.toList/\x.key≠enc s):=by
   intro x hx;obtain⟨i,hi,ex⟩:=kE hx;rw[List.getElem_set]at ex;split at ex
   ·exact Or.inl ex.symm
   ·rename_i hne
    have hi':i<es.toList.length:=by simpa using hi
    refine Or.inr ⟨ex▸jO hi',?_⟩
    have ej:es.toList[j]=e0:=by
     have:=pq hjl;rw[h2]at this;exact(yL this).symm
    have hd:es.toList[i].key≠es.toList[j].key:=by
     rcases Ac i j with h|h
     ·exact JN.1 hpw i j hi' hjl h
     ·exact λe1=>JN.1 hpw j i hjl hi' (by omega) e1.symm
    rw[ej]at hd;rw[<-h3,<-ex];exact hd
  refine⟨es.modify j (λe'=>{ e' with key:=enc s,val:=val }),clock,?_,stamped_modify hM.stamped _ _ (λ_ _=>rfl) (λe' _ he'=>hkeyf e' he'),?_,?_,?_,?_⟩
  ·simp[Instr.mapUpdate,run_underlying ht,MapKept.run_getObj_map hb,K.check w false hkey,h1,hj,h3,K.stays w hkey,MapKept.run_setObj_map _ hb,Result.andThen,setBlock]
  ·have:=hM.size;simp;omega
  ·intro x hx
   rw[hlist]at hx;rcases who x hx with rfl|⟨hx',hne⟩
   ·exact⟨_,hkey⟩
   ·exact hM.keys x hx'
  ·intro x hx
   rw[hlist]at hx;rcases who x hx with rfl|⟨hx',hne⟩
   ·exact⟨s,rfl,by simp[gX]⟩
   ·obtain⟨s',a,b⟩:=hM.here x hx'
    have hs:s'≠s:=λe=>hne (by rw[a,e]);exact⟨s',a,by simp[gX,hs,b]⟩
  ·intro s' v hv
   rw[hlist];by_cases e1:s'=s
   ·subst e1
    exact⟨{ e0 with key:=enc s',val:=val },List.mem_iff_getElem.2 ⟨j,by simpa using hjl,by simp⟩,rfl⟩
   ·simp only[gX,e1,bN]at hv
    obtain⟨x,hx,hk⟩:=hM.all s' v hv;obtain⟨i,hi,ex⟩:=kE hx
    have hij:j≠i:=λe2=>by
     subst e2;have:=pq hi;rw[h2]at this;have ej:=yL this;rw[<-ex,<-ej,h3]at hk;exact e1 (inj _ _ hk).symm
    exact⟨x,List.mem_iff_getElem.2 ⟨i,by simpa using hi,by rw[List.getElem_set_ne hij];exact ex⟩,hk⟩
theorem Ol{w:World}{b:Nat}{es:Array MapEntry}{clock:Nat}(hb:w.heap[b]?=some (.map es clock))(o:Obj):w.grownBy (setBlock w b o) (some b):=
 ⟨rfl,rfl,rfl,by simp[setBlock],λi _ hi=>heap_setBlock_other hb _ (λe=>hi (by rw[e]))⟩
theorem Om{w:World}{b n:Nat}{M:κ->Option Value}(h:MapAt P k enc w b n M)(K:KeyLaw P k){t e:TypeId}(ht:P.underlying t=some (.map k e))
 (inj:∀s s',enc s=enc s'->s=s') {s:κ} {kl:Lit} (hkey:keyOf P k (enc s)=some kl) (val:Value):
 ∃w',(Instr.mapUpdate t (.map (some b)) (enc s) val).run P w= .ok () w'/\MapAt P k enc w' b (n+1) (gX M s val)/\w.grownBy w' (some b)/\w'.heap.size=w.heap.size:=by
 obtain⟨es,clock,hb,hM⟩:=h;obtain⟨es',clock',h1,h2⟩:=UA hb hM K ht inj hkey val;exact⟨_,h1,⟨es',clock',heap_setBlock_same hb _,h2⟩,Ol hb _,by simp[setBlock]⟩
theorem UB{w:World}{b n:Nat}{M:κ->Option Value}(h:MapAt P k enc w b n M)(hn:n<=maxLen)(K:KeyLaw P k){t e:TypeId}(ht:P.underlying t=some (.map k e)){z:Value}(hz:∀u:World,(zeroValue e).run P u= .ok z u)
 (inj:∀s s',enc s=enc s'->s=s') {s:κ} {kl:Lit} (hkey:keyOf P k (enc s)=some kl):
 ∃(st:Nat) (w1:World),(Instr.mapEntry t (.map (some b)) (enc s)).run P w= .ok (.tuple #[(M s).getD z,goInt st]) w1/\w.grownBy w1 (some b)/\w1.heap.size=w.heap.size/\
  ∀(w2:World) (val:Value),w2.heap[b]?=w1.heap[b]?->∃w3,(Instr.entryStore t (.map (some b)) (goInt st) val).run P w2= .ok () w3/\MapAt P k enc w3 b (n+1) (gX M s val)/\w2.grownBy w3 (some b)/\w3.heap.size=w2.heap.size:=by
 obtain⟨es,clock,hb,hM⟩:=h;obtain⟨v0,st,es1,clock1,hrun,hv0,hst⟩:=entry_then_store K ht hz hb (hM.fit hn) hkey
 have hv:v0=(M s).getD z:=by
  rcases hv0 with⟨e0,hm,hk0,rfl⟩|⟨hno,rfl⟩
  ·obtain⟨s',a,b⟩:=hM.here e0 hm
   have:s=s':=inj _ _ (hk0.symm.trans a);subst this;rw[b];rfl
  ·cases hs:M s with
   |none=>rfl
   |some v=>
    obtain⟨x,hx,hxk⟩:=hM.all s v hs;exact absurd hxk (hno x hx)
 subst hv;refine⟨st,_,hrun,Ol hb _,by simp[setBlock],λw2 val hw2=> ?_⟩;rw[heap_setBlock_same hb]at hw2;obtain⟨es',clock',h1,h2⟩:=hst w2 val hw2;obtain⟨es2,clock2,h3,h4⟩:=UA hb hM K ht inj hkey val;rw[h2]at h3
 have h5:setBlock w b (.map es' clock')=setBlock w b (.map es2 clock2):=by
  injection h3
 have h6:(Obj.map es' clock')= .map es2 clock2:=by
  have a:=heap_setBlock_same hb (.map es' clock');rw[h5,heap_setBlock_same hb]at a;exact(yL a).symm
 injection h6 with h7 h8;subst h7;subst h8;exact⟨_,h1,⟨_,_,heap_setBlock_same hw2 _,h4⟩,Ol hw2 _,by simp[setBlock]⟩
end
section
variable{w w':World}
theorem UC{base:Nat}{e:TypeId}{size n:Nat}{x:Value}{xs:List Value}(h:w.ownsRow base e size x n xs)(hh:∀g,x.ownBlock=some g->w'.heap[g]?=w.heap[g]?):w'.ownsRow base e size x n xs:=by
 refine⟨h.1,?_⟩;rcases h.2 with h2|⟨g,cap,cur,rfl,h2,h3,h4⟩
 ·exact .inl h2
 ·exact .inr ⟨g,cap,cur,rfl,h2,(hh g rfl).trans h3,h4⟩
theorem Gy{base:Nat}{e:TypeId}{size n:Nat}{x:Value}{xs:List Value}(h:w.ownsRow base e size x n xs){b:Nat}{es:Array MapEntry}{c:Nat}(hb:w.heap[b]?=some (.map es c)):x.ownBlock≠some b:=by
 rcases h.2 with⟨rfl,_⟩|⟨g,cap,cur,rfl,h2,h3,h4⟩
 ·intro e;cases e
 ·intro e
  have:g=b:=by simpa [Value.ownBlock] using e
  subst this;rw[hb]at h3;cases h3
theorem MapAt.isMap{κ:Type}{P:Program}{k:TypeId}{enc:κ->Value}{b n:Nat}{M:κ->Option Value}(h:MapAt P k enc w b n M):∃es c,w.heap[b]?=some (.map es c):=by
 obtain⟨es,c,hb,_⟩:=h;exact⟨es,c,hb⟩
theorem aA.heap{ι:Type}{P:ι->Option Row}{base:Nat}(h:aA w base P)(hh:∀i r g,P i=some r->r.v.ownBlock=some g->w'.heap[g]?=w.heap[g]?):aA w' base P:=
 ⟨λi r hr=>UC (h.own i r hr) λg hg=>hh i r g hr hg,h.apart⟩
end
end Go.Proofs.YthbifaoaiggooaaGreatDoor
namespace Go.Proofs.YthbifaoaiggooaaGreatDoor
open Go.RowKit
open Go.WideMaps (KeyLaw)
def sV(it:aX):Value:= .agg #[.int .i64 it.rule,.int .i64 it.read,.int .i64 it.fr,.int .i64 it.upto]
def jl(s:dU):Value:= .agg #[.int .i64 s.1,.int .i64 s.2]
def jJ(it:aX):List Value:=[.int .i64 it.rule,.int .i64 it.read,.int .i64 it.fr,.int .i64 it.upto]
theorem UD(a b:aX)(h:sV a=sV b):a=b:=by
 obtain⟨a1,a2,a3,a4⟩:=a;obtain⟨b1,b2,b3,b4⟩:=b;simp[sV]at h;simp;omega
theorem Kq(a b:dU)(h:jl a=jl b):a=b:=by
 obtain⟨a1,a2⟩:=a;obtain⟨b1,b2⟩:=b;simp[jl]at h;simp;omega
theorem UE:laidOutB Tryz.prog=true:=by kernel_rfl
theorem acp:(match Tryz.prog.underlying 182 with|some (.array _ _)|some (.struct _)=>true|_=>false)=true:=by rw[Tryz.underlying182 ]
theorem acr:(match Tryz.prog.underlying 180 with|some (.array _ _)|some (.struct _)=>true|_=>false)=true:=by rw[Tryz.underlying180 ]
theorem UF:KeyLaw Tryz.prog 182:=deep_law_laid UE (m:=3) (by omega) (wX (by kernel_rfl)) (by kernel_rfl) acp
theorem Kr:KeyLaw Tryz.prog 180:=deep_law_laid UE (m:=3) (by omega) (wX (by kernel_rfl)) (by kernel_rfl) acr
theorem acs:Tryz.prog.keyType 182=true:=by kernel_rfl
theorem acu:Tryz.prog.keyType 180=true:=by kernel_rfl
theorem UG:Tryz.prog.cellsOf 182=4:=by kernel_rfl
theorem UH:Tryz.prog.cellsOf 180=2:=by kernel_rfl
theorem intCells:Tryz.prog.cellsOf 3=1:=by kernel_rfl
theorem UI:∃m,Tryz.prog.types.size=m+1:=⟨Tryz.prog.types.size-1,by kernel_rfl⟩
theorem wf_i64{a:Int}(h0:0<=a)(h:a<=1000000):(Lit.int .i64 a).wf=true:=by
 have h1:IntKind.i64.min<=a:=Int.le_trans (by decide) h0;have h2:a<=IntKind.i64.max:=Int.le_trans h (by decide);simp only[Lit.wf,aT h1,aT h2,Bool.and_self]
theorem UJ{it:aX}(h1:it.rule<=1000)(h2:it.read<=1000)(h3:it.fr<=1000)(h4:it.upto<=1000):∃l,keyOf Tryz.prog 182 (sV it)=some l:=by
 obtain⟨m,hm⟩:=UI;have w1:=wf_i64 (a:=it.rule) (by omega) (by omega);have w2:=wf_i64 (a:=it.read) (by omega) (by omega);have w3:=wf_i64 (a:=it.fr) (by omega) (by omega);have w4:=wf_i64 (a:=it.upto) (by omega) (by omega);rw[<-JO];unfold keyOf sV;simp only[Tryz.underlying182 ];rw[au (by simp[acs,Value.formed,Tryz.underlying182,UG]),hm];simp[Program.keyLits,Tryz.underlying182,Tryz.underlying3,UG,intCells,Value.cells,w1,w2,w3,w4]
theorem Kt{s:dU}(h0:0<=s.1)(h1:s.1<=1000)(h2:s.2<=1000):∃l,keyOf Tryz.prog 180 (jl s)=some l:=by
 obtain⟨m,hm⟩:=UI;have w1:=wf_i64 (a:=s.1) (by omega) (by omega);have w2:=wf_i64 (a:=s.2) (by omega) (by omega);rw[<-JO];unfold keyOf jl;simp only[Tryz.underlying180 ];rw[au (by simp[acu,Value.formed,Tryz.underlying180,UH]),hm];simp[Program.keyLits,Tryz.underlying180,Tryz.underlying3,UH,intCells,Value.cells,w1,w2]
theorem acv(w:World):(zeroValue 239).run Tryz.prog w= .ok (.agg #[]) w:=by kernel_rfl
theorem UK(w:World):(zeroValue 175).run Tryz.prog w= .ok (.slice none 0 0) w:=by kernel_rfl
theorem UL(w:World):(zeroValue 39).run Tryz.prog w= .ok (.slice none 0 0) w:=by kernel_rfl
theorem Tryz.infoItm:(Tryz.prog.info? 182).map (λi=>(i.zero,i.size,i.bytes))=some (some (.agg #[.int .i64 0,.int .i64 0,.int .i64 0,.int .i64 0]),4,32):=by kernel_rfl
structure Ad where
 ca:Nat
 mi:Nat
 mw:Nat
 me:Nat
 T:Nat
 N:Nat
 rv:Value
 tv:Value
structure CM where
 ov:Value
 VW:dU->Value
 VE:dU->Value
inductive Oo where
 |ch
 |op
 |wt (s:dU)
 |en (s:dU)
 deriving DecidableEq
def D7(d:Ad)(ov:Value):List Value:=[.int .i64 d.T,.int .i64 d.N,d.rv,d.tv,.map (some d.mi),ov,.map (some d.mw),.map (some d.me)]
def Pc(d:Ad)(v:CM)(st:bq):Oo->Option Row
 | .ch=>some ⟨.slice (some ⟨d.ca,0,none⟩) 1 1,177,8,1,D7 d v.ov⟩
 | .op=>some ⟨v.ov,182,4,st.O.length,st.O.flatMap jJ⟩
 | .wt s=>some ⟨v.VW s,182,4,(st.W s).length,(st.W s).flatMap jJ⟩
 | .en s=>some ⟨v.VE s,3,1,(st.E s).length,(st.E s).map λj:Nat=>Value.int .i64 j⟩
def yY(I:List aX)(it:aX):Option Value:=if it∈I then some (.agg #[]) else none
def jK{α:Type}(L:dU->List α)(V:dU->Value)(s:dU):Option Value:=if (L s).length=0 then none else some (V s)
structure aN(w:World)(B:Nat)(d:Ad)(v:CM)(st:bq)(nm:Nat):Prop where
 own:aA w B (Pc d v st)
 pX:MapAt Tryz.prog 182 sV w d.mi st.I.length (yY st.I)
 pY:MapAt Tryz.prog 180 jl w d.mw nm (jK st.W v.VW)
 p8:MapAt Tryz.prog 180 jl w d.me nm (jK st.E v.VE)
 yZ:∀s,(st.W s).length=0->v.VW s= .slice none 0 0
 y8:∀s,(st.E s).length=0->v.VE s= .slice none 0 0
 ne1:d.mi≠d.mw
 y9:d.mi≠d.me
 za:d.mw≠d.me
 ge:B<=d.mi/\B<=d.mw/\B<=d.me
def Kc(d:Ad)(v:CM)(b:Nat):Prop:=b=d.mi\/b=d.mw\/b=d.me\/b=d.ca\/v.ov.ownBlock=some b\/(∃s,(v.VW s).ownBlock=some b)\/∃s,(v.VE s).ownBlock=some b
structure Goes(d:Ad)(v v':CM)(w w':World):Prop where
 kept:Kept (Kc d v) w w'
 old:∀b,b<w.heap.size->Kc d v' b->Kc d v b
section
variable{d:Ad}{v v' v'':CM}{w w' w'':World}{B nm:Nat}{st:bq}
theorem Goes.refl(d:Ad)(v:CM)(w:World):Goes d v v w w:=⟨Kept.refl _ _,λ_ _ h=>h⟩
theorem Goes.trans(h:Goes d v v' w w')(k:Goes d v' v'' w' w''):Goes d v v'' w w'':=
 ⟨⟨k.kept.os.trans h.kept.os,k.kept.tape.trans h.kept.tape,k.kept.output.trans h.kept.output,aZ h.kept.size k.kept.size,
    λb hb hK=>(k.kept.block b (jg hb h.kept.size) (λe=>hK (h.old b hb e))).trans (h.kept.block b hb hK)⟩,
   λb hb hK=>h.old b hb (k.old b (jg hb h.kept.size) hK)⟩
theorem Goes.dI(hb:Below w.heap.size w w'):Goes d v v w w':=⟨Kept.dI hb,λ_ _ h=>h⟩
theorem Goes.alloc(h:Goes d v v' w w')(o:Obj):Goes d v v' w (w'.alloc o):=h.trans (Goes.dI ((ai _ _).alloc (ah _) o))
theorem Goes.drew(h:Goes d v v' w w'):Goes d v v' w w'.drew:=h.trans (Goes.dI ((ai _ _).drew))
theorem Goes.far(h:Goes d v v' w w'){b:Nat}(hb:b<w.heap.size)(hn:¬Kc d v b):w'.heap[b]?=w.heap[b]?/\¬Kc d v' b/\b<w'.heap.size:=
 ⟨h.kept.block b hb hn,λe=>hn (h.old b hb e),jg hb h.kept.size⟩
theorem aN.off(h:aN w B d v st nm){b:Nat}(hb:b=d.mi\/b=d.mw\/b=d.me){i:Oo}{r:Row}(hr:Pc d v st i=some r):r.v.ownBlock≠some b:=by
 obtain⟨e1,c1,h1⟩:=h.pX.isMap;obtain⟨e2,c2,h2⟩:=h.pY.isMap;obtain⟨e3,c3,h3⟩:=h.p8.isMap;rcases hb with rfl|rfl|rfl
 ·exact Gy (h.own.own i r hr) h1
 ·exact Gy (h.own.own i r hr) h2
 ·exact Gy (h.own.own i r hr) h3
theorem aN.kc(h:aN w B d v st nm){b:Nat}(hb:Kc d v b):B<=b/\b<w.heap.size:=by
 rcases hb with rfl|rfl|rfl|rfl|hb|⟨s,hb⟩|⟨s,hb⟩
 ·exact⟨h.ge.1,h.pX.lt⟩
 ·exact⟨h.ge.2.1,h.pY.lt⟩
 ·exact⟨h.ge.2.2,h.p8.lt⟩
 ·exact h.own.lt (i:= .ch) rfl rfl
 ·exact h.own.lt (i:= .op) rfl hb
 ·exact h.own.lt (i:= .wt s) rfl hb
 ·exact h.own.lt (i:= .en s) rfl hb
theorem acw{i:Oo}{r:Row}{g:Nat}(hr:Pc d v st i=some r)(hg:r.v.ownBlock=some g):Kc d v g:=by
 cases i<;>simp only[Pc,bM]at hr<;>subst hr
 ·simp only[Value.ownBlock,bM]at hg
  exact .inr (.inr (.inr (.inl hg.symm)))
 ·exact .inr (.inr (.inr (.inr (.inl hg))))
 ·exact .inr (.inr (.inr (.inr (.inr (.inl ⟨_,hg⟩)))))
 ·exact .inr (.inr (.inr (.inr (.inr (.inr ⟨_,hg⟩)))))
theorem aN.far(h:aN w B d v st nm)(hh:∀b,b<w.heap.size->Kc d v b->w'.heap[b]?=w.heap[b]?):aN w' B d v st nm:=by
 have k:∀b,Kc d v b->w'.heap[b]?=w.heap[b]?:=λb hb=>hh b (h.kc hb).2 hb;exact⟨h.own.heap λi r g hr hg=>k g (acw hr hg),h.pX.kept (k _ (.inl rfl)),h.pY.kept (k _ (.inr (.inl rfl))),h.p8.kept (k _ (.inr (.inr (.inl rfl)))),h.yZ,h.y8,h.ne1,h.y9,h.za,h.ge⟩
theorem aN.below(h:aN w B d v st nm)(hb:Below w.heap.size w w'):aN w' B d v st nm:=h.far λb hlt _=>hb.block b hlt
theorem aN.alloc(h:aN w B d v st nm)(o:Obj):aN (w.alloc o) B d v st nm:=h.below ((ai _ _).alloc (ah _) o)
theorem aN.drew(h:aN w B d v st nm):aN w.drew B d v st nm:=h.below ((ai _ _).drew)
theorem aN.rC(h:aN w B d v st nm)(g:Goes d v v' w w'):Below B w w':=
 g.kept.below (λb hb=>(h.kc hb).1) (by have:=h.ge.1;have:=h.pX.lt;omega)
theorem aN.cell(h:aN w B d v st nm){i:Nat}{x:Value}(hx:(D7 d v.ov)[i]?=some x)(hi:i<8):w.cell? ⟨d.ca,i,none⟩=some x/\w.frozen? ⟨d.ca,i,none⟩=false:=by
 have:=h.own.cell (i:= .ch) (g:=d.ca) (n:=1) (cap:=1) (e:=177) (size:=8) (xs:=D7 d v.ov) rfl i (by omega);exact⟨this.1.trans hx,this.2⟩
theorem acy{L:List aX}{i k:Nat}(hi:i<L.length)(hk:k<4):(L.flatMap jJ)[i*4+k]?=(jJ (L.getD i ⟨0,0,0,0⟩))[k]?:=by
 induction L generalizing i with
 |nil=>simp at hi
 |cons a L ih=>
  rw[gV];have hl:(jJ a).length=4:=rfl;cases i with
  |zero=>rw[vo (by omega)];simp
  |succ i=>
   rw[o9 (by omega),hl,show (i+1)*4+k-4=i*4+k by omega];rw[ih (by simpa using hi)];simp[List.getD]
theorem Oq(L:List aX):(L.flatMap jJ).length=L.length*4:=by
 induction L with
 |nil=>rfl
 |cons a L ih=>rw[gV,aS,ih];simp[jJ];omega
theorem UM{base g cap:Nat}{L:List aX}{x:Value}(h:w.ownsRow base 182 4 x L.length (L.flatMap jJ))(hx:x= .slice (some ⟨g,0,none⟩) L.length cap){i:Nat}(hi:i<L.length){it:aX}(hit:L.getD i ⟨0,0,0,0⟩=it):
 w.cell? ⟨g,i*4,none⟩=some (.int .i64 it.rule)/\w.cell? ⟨g,i*4+1,none⟩=some (.int .i64 it.read)/\w.cell? ⟨g,i*4+2,none⟩=some (.int .i64 it.fr)/\w.cell? ⟨g,i*4+3,none⟩=some (.int .i64 it.upto):=by
 subst hx;subst hit
 have c:∀k,k<4->w.cell? ⟨g,i*4+k,none⟩=(jJ (L.getD i ⟨0,0,0,0⟩))[k]?:=λk hk=>by
  rw[h.cellAt (i*4+k) (by omega),acy hi hk]
 exact⟨c 0 (by omega),c 1 (by omega),c 2 (by omega),c 3 (by omega)⟩
theorem UN{base g cap:Nat}{L:List Nat}{x:Value}(h:w.ownsRow base 3 1 x L.length (L.map λj:Nat=>Value.int .i64 j))(hx:x= .slice (some ⟨g,0,none⟩) L.length cap){i:Nat}(hi:i<L.length){j:Nat}(hj:L.getD i 0=j):
 w.cell? ⟨g,i,none⟩=some (.int .i64 j):=by
 subst hx;subst hj;rw[h.cellAt i (by omega)];simp[List.getD,hi]
theorem aN.acz(h:aN w B d v st nm){it:aX}(hg:w.grownBy w' (some d.mi))(hm:MapAt Tryz.prog 182 sV w' d.mi (st.I.length+1) (gX (yY st.I) it (.agg #[]))):
 aN w' B d v { st with I:=st.I++[it] } nm/\Goes d v v w w':=by
 refine⟨⟨?_,?_,h.pY.kept ?_,h.p8.kept ?_,h.yZ,h.y8,h.ne1,h.y9,h.za,h.ge⟩,⟨hg.os,hg.tape,hg.output,hg.size,λb hb hK=>hg.block b hb λe=>hK (.inl (by simpa using e))⟩,λ_ _ hK=>hK⟩
 ·exact h.own.heap λi r g hr hg'=>hg.block g (h.own.lt hr hg').2 λe=>h.off (.inl rfl) hr (hg'.trans e)
 ·have e:gX (yY st.I) it (.agg #[])=yY (st.I++[it]):=by
   funext x
   by_cases hx:x=it
   ·simp[gX,yY,hx]
   ·simp[gX,yY,hx]
  have:=hm.congr e;simpa using this
 ·exact hg.block _ h.pY.lt λe=>h.ne1 (by simpa using e.symm)
 ·exact hg.block _ h.p8.lt λe=>h.y9 (by simpa using e.symm)
theorem acA{aL:Value}{O':List aX}:upd (upd (Pc d v st) .op ⟨aL,182,4,O'.length,O'.flatMap jJ⟩) .ch ⟨.slice (some ⟨d.ca,0,none⟩) 1 1,177,8,1,(D7 d v.ov).set 5 aL⟩=Pc d { v with ov:=aL } { st with O:=O' }:=by
 funext i
 cases i<;>simp[upd,Pc,D7]
theorem aN.D8(h:aN w B d v st nm){aL:Value}{O':List aX}(hg:w.grownBy w' v.ov.ownBlock)(ho:w'.ownsRow B 182 4 aL O'.length (O'.flatMap jJ))(hat:∀g,aL.ownBlock=some g->v.ov.ownBlock=some g\/g=w.heap.size):
 aN (w'.setCell ⟨d.ca,5,none⟩ aL) B d { v with ov:=aL } { st with O:=O' } nm/\Goes d v { v with ov:=aL } w (w'.setCell ⟨d.ca,5,none⟩ aL):=by
 have h1:=h.own.turn (i:= .op) (r':=⟨aL,182,4,O'.length,O'.flatMap jJ⟩) rfl hg ho hat;have h2:=h1.store (i:= .ch) (g:=d.ca) (n:=1) (cap:=1) (e:=177) (size:=8) (xs:=D7 d v.ov) (by simp[upd,Pc]) 5 aL;rw[acA]at h2;have far:∀b,b<w.heap.size->b≠d.ca->some b≠v.ov.ownBlock->(w'.setCell ⟨d.ca,5,none⟩ aL).heap[b]?=w.heap[b]?:=λb hb hne hr=>(gm _ _ _ _ hne).trans (hg.block b hb hr)
 have m:∀b,(b=d.mi\/b=d.mw\/b=d.me)->b<w.heap.size->(w'.setCell ⟨d.ca,5,none⟩ aL).heap[b]?=w.heap[b]?:=λb hb hlt=>
  far b hlt (λe=>h.off hb (i:= .ch) rfl (by rw[e];rfl)) λe=>h.off hb (i:= .op) rfl e.symm
 refine⟨⟨h2,h.pX.kept (m _ (.inl rfl) h.pX.lt),h.pY.kept (m _ (.inr (.inl rfl)) h.pY.lt),h.p8.kept (m _ (.inr (.inr rfl)) h.p8.lt),h.yZ,h.y8,h.ne1,h.y9,h.za,h.ge⟩,
  ⟨hg.os,hg.tape,hg.output,by have:=hg.size;simpa [World.setCell] using this,λb hb hK=>far b hb (λe=>hK (.inr (.inr (.inr (.inl e))))) λe=>hK (.inr (.inr (.inr (.inr (.inl e.symm)))))⟩,λb hb hK=> ?_⟩
 rcases hK with hK|hK|hK|hK|hK|hK|hK
 ·exact .inl hK
 ·exact .inr (.inl hK)
 ·exact .inr (.inr (.inl hK))
 ·exact .inr (.inr (.inr (.inl hK)))
 ·rcases hat b hK with e|e
  ·exact .inr (.inr (.inr (.inr (.inl e))))
  ·omega
 ·exact .inr (.inr (.inr (.inr (.inr (.inl hK)))))
 ·exact .inr (.inr (.inr (.inr (.inr (.inr hK)))))
theorem aN.pop(h:aN w B d v st nm){g cap:Nat}(hv:v.ov= .slice (some ⟨g,0,none⟩) st.O.length cap)(hO:0<st.O.length):
 aN (w.setCell ⟨d.ca,5,none⟩ (.slice (some ⟨g,0,none⟩) (st.O.length-1) cap)) B d { v with ov:= .slice (some ⟨g,0,none⟩) (st.O.length-1) cap } (lG st) nm/\
  Goes d v { v with ov:= .slice (some ⟨g,0,none⟩) (st.O.length-1) cap } w (w.setCell ⟨d.ca,5,none⟩ (.slice (some ⟨g,0,none⟩) (st.O.length-1) cap)):=by
 have ho:=h.own.own .op _ rfl;simp only[hv]at ho;have hl:st.O.dropLast.length=st.O.length-1:=by simp
 have ho':w.ownsRow B 182 4 (.slice (some ⟨g,0,none⟩) (st.O.length-1) cap) st.O.dropLast.length (st.O.dropLast.flatMap jJ):=by
  refine⟨Oq _,?_⟩;rcases ho.2 with⟨e,_⟩|⟨g',cap',cur,e,h2,h3,h4,h5,h6,h7⟩
  ·cases e
  ·injection e with e1 e2 e3
   injection e1 with e1;injection e1 with e1;subst e1;subst e3;refine .inr ⟨g,cap,cur,by rw[hl],h2,h3,by omega,h5,h6,?_⟩
   have e8:st.O.flatMap jJ=st.O.dropLast.flatMap jJ++jJ (fE st):=by
    conv=>lhs;rw[Ux hO,qQ]
    simp
   rw[e8]at h7;have h9:=congrArg (List.take (st.O.dropLast.length*4)) h7;rw[List.take_take,wU (by omega),<-Oq,BL]at h9;rw[<-Oq];exact h9
 have:=h.D8 (World.grownBy.refl w _) ho' (λb hb=> .inl (by rw[hv];exact hb));exact⟨⟨this.1.own,this.1.pX,this.1.pY,this.1.p8,this.1.yZ,this.1.y8,h.ne1,h.y9,h.za,h.ge⟩,this.2⟩
theorem acB{s:dU}{it:aX}{nv:Value}:upd (Pc d v st) (.wt s) ⟨nv,182,4,(st.W s++[it]).length,(st.W s++[it]).flatMap jJ⟩=Pc d { v with VW:=gI v.VW s nv } (iZ s it st):=by
 funext i
 cases i with
 |ch=>simp[upd,Pc]
 |op=>simp[upd,Pc,iZ]
 |en t=>simp[upd,Pc,iZ]
 |wt t=>
  by_cases e:t=s
  ·subst e;simp[upd,Pc,iZ,gI]
  ·simp[upd,Pc,iZ,gI,e]
theorem acC{s:dU}{j:Nat}{nv:Value}:upd (Pc d v st) (.en s) ⟨nv,3,1,(st.E s++[j]).length,(st.E s++[j]).map λj:Nat=>Value.int .i64 j⟩=Pc d { v with VE:=gI v.VE s nv } (jH s j st):=by
 funext i
 cases i with
 |ch=>simp[upd,Pc]
 |op=>simp[upd,Pc,jH]
 |wt t=>simp[upd,Pc,jH]
 |en t=>
  by_cases e:t=s
  ·subst e;simp[upd,Pc,jH,gI]
  ·simp[upd,Pc,jH,gI,e]
theorem UO{α:Type}{L:dU->List α}{V:dU->Value}{s:dU}{x:α}{nv:Value}:gX (jK L V) s nv=jK (gI L s (L s++[x])) (gI V s nv):=by
 funext t
 by_cases e:t=s
 ·subst e;simp[gX,jK,gI]
 ·simp[gX,jK,gI,e]
theorem aN.iZ(h:aN w B d v st nm){w1 w2 w3:World}{s:dU}{it:aX}{nv:Value}(g1:w.grownBy w1 (some d.mw))(hs1:w1.heap.size=w.heap.size)(g2:w1.grownBy w2 (v.VW s).ownBlock)
 (ho:w2.ownsRow B 182 4 nv (st.W s++[it]).length ((st.W s++[it]).flatMap jJ)) (hat:∀g,nv.ownBlock=some g->(v.VW s).ownBlock=some g\/g=w.heap.size)
 (g3:w2.grownBy w3 (some d.mw)) (hm:MapAt Tryz.prog 180 jl w3 d.mw (nm+1) (gX (jK st.W v.VW) s nv)):
 aN w3 B d { v with VW:=gI v.VW s nv } (iZ s it st) (nm+1)/\Goes d v { v with VW:=gI v.VW s nv } w w3:=by
 have hW:=h.pY.lt;have o1:aA w1 B (Pc d v st):=h.own.heap λi r g hr hg'=>g1.block g (h.own.lt hr hg').2 λe=>h.off (.inr (.inl rfl)) hr (hg'.trans e);have o2:=o1.turn (i:= .wt s) (r':=⟨nv,182,4,(st.W s++[it]).length,(st.W s++[it]).flatMap jJ⟩) rfl g2 ho (λg hg=>by rw[hs1];exact hat g hg)
 have hn:nv.ownBlock≠some d.mw:=λe=>by
  rcases hat _ e with e1|e1
  ·exact h.off (.inr (.inl rfl)) (i:= .wt s) rfl e1
  ·omega
 have o3:aA w3 B (upd (Pc d v st) (.wt s) ⟨nv,182,4,(st.W s++[it]).length,(st.W s++[it]).flatMap jJ⟩):=o2.heap λi r g hr hg'=>g3.block g (o2.lt hr hg').2 λe=>by
  rcases DI hr with⟨_,rfl⟩|⟨_,hr'⟩
  ·exact hn (hg'.trans e)
  ·exact h.off (.inr (.inl rfl)) hr' (hg'.trans e)
 rw[acB]at o3
 have far:∀b,b<w.heap.size->b≠d.mw->some b≠(v.VW s).ownBlock->w3.heap[b]?=w.heap[b]?:=λb hb h1 h2=>
  ((g3.block b (by have:=g2.size;omega) (λe=>h1 (by simpa using e))).trans (g2.block b (by omega) h2)).trans (g1.block b hb (λe=>h1 (by simpa using e)))
 refine⟨⟨o3,h.pX.kept (far _ h.pX.lt h.ne1 λe=>h.off (.inl rfl) (i:= .wt s) rfl e.symm),?_,(h.p8.kept (far _ h.p8.lt h.za.symm λe=>h.off (.inr (.inr rfl)) (i:= .wt s) rfl e.symm)).mono (nK _),λt ht=> ?_,h.y8,h.ne1,h.y9,h.za,h.ge⟩,
  ⟨(g3.os.trans g2.os).trans g1.os,(g3.tape.trans g2.tape).trans g1.tape,(g3.output.trans g2.output).trans g1.output,aZ g1.size (aZ g2.size g3.size),λb hb hK=>far b hb (λe=>hK (.inr (.inl e))) λe=>hK (.inr (.inr (.inr (.inr (.inr (.inl ⟨s,e.symm⟩))))))⟩,λb hb hK=> ?_⟩
 ·rw[UO (x:=it)]at hm
  exact hm
 ·by_cases e:t=s
  ·subst e;simp[Proofs.YthbifaoaiggooaaGreatDoor.iZ,gI]at ht
  ·simp only[Proofs.YthbifaoaiggooaaGreatDoor.iZ,gI,e,bN]at ht⊢
   exact h.yZ t ht
 ·rcases hK with hK|hK|hK|hK|hK|⟨t,hK⟩|hK
  ·exact .inl hK
  ·exact .inr (.inl hK)
  ·exact .inr (.inr (.inl hK))
  ·exact .inr (.inr (.inr (.inl hK)))
  ·exact .inr (.inr (.inr (.inr (.inl hK))))
  ·refine .inr (.inr (.inr (.inr (.inr (.inl ?_)))))
   by_cases e:t=s
   ·subst e
    simp only[yV]at hK;rcases hat b hK with e1|e1
    ·exact⟨_,e1⟩
    ·omega
   ·simp only[Av _ e]at hK
    exact⟨t,hK⟩
  ·exact .inr (.inr (.inr (.inr (.inr (.inr hK)))))
theorem aN.jH(h:aN w B d v st nm){w1 w2 w3:World}{s:dU}{j:Nat}{nv:Value}(g1:w.grownBy w1 (some d.me))(hs1:w1.heap.size=w.heap.size)(g2:w1.grownBy w2 (v.VE s).ownBlock)
 (ho:w2.ownsRow B 3 1 nv (st.E s++[j]).length ((st.E s++[j]).map λj:Nat=>Value.int .i64 j)) (hat:∀g,nv.ownBlock=some g->(v.VE s).ownBlock=some g\/g=w.heap.size)
 (g3:w2.grownBy w3 (some d.me)) (hm:MapAt Tryz.prog 180 jl w3 d.me (nm+1) (gX (jK st.E v.VE) s nv)):
 aN w3 B d { v with VE:=gI v.VE s nv } (jH s j st) (nm+1)/\Goes d v { v with VE:=gI v.VE s nv } w w3:=by
 have hW:=h.p8.lt;have o1:aA w1 B (Pc d v st):=h.own.heap λi r g hr hg'=>g1.block g (h.own.lt hr hg').2 λe=>h.off (.inr (.inr rfl)) hr (hg'.trans e);have o2:=o1.turn (i:= .en s) (r':=⟨nv,3,1,(st.E s++[j]).length,(st.E s++[j]).map λj:Nat=>Value.int .i64 j⟩) rfl g2 ho (λg hg=>by rw[hs1];exact hat g hg)
 have hn:nv.ownBlock≠some d.me:=λe=>by
  rcases hat _ e with e1|e1
  ·exact h.off (.inr (.inr rfl)) (i:= .en s) rfl e1
  ·omega
 have o3:aA w3 B (upd (Pc d v st) (.en s) ⟨nv,3,1,(st.E s++[j]).length,(st.E s++[j]).map λj:Nat=>Value.int .i64 j⟩):=o2.heap λi r g hr hg'=>g3.block g (o2.lt hr hg').2 λe=>by
  rcases DI hr with⟨_,rfl⟩|⟨_,hr'⟩
  ·exact hn (hg'.trans e)
  ·exact h.off (.inr (.inr rfl)) hr' (hg'.trans e)
 rw[acC]at o3
 have far:∀b,b<w.heap.size->b≠d.me->some b≠(v.VE s).ownBlock->w3.heap[b]?=w.heap[b]?:=λb hb h1 h2=>
  ((g3.block b (by have:=g2.size;omega) (λe=>h1 (by simpa using e))).trans (g2.block b (by omega) h2)).trans (g1.block b hb (λe=>h1 (by simpa using e)))
 refine⟨⟨o3,h.pX.kept (far _ h.pX.lt h.y9 λe=>h.off (.inl rfl) (i:= .en s) rfl e.symm),(h.pY.kept (far _ h.pY.lt h.za λe=>h.off (.inr (.inl rfl)) (i:= .en s) rfl e.symm)).mono (nK _),?_,h.yZ,λt ht=> ?_,h.ne1,h.y9,h.za,h.ge⟩,
  ⟨(g3.os.trans g2.os).trans g1.os,(g3.tape.trans g2.tape).trans g1.tape,(g3.output.trans g2.output).trans g1.output,aZ g1.size (aZ g2.size g3.size),λb hb hK=>far b hb (λe=>hK (.inr (.inr (.inl e)))) λe=>hK (.inr (.inr (.inr (.inr (.inr (.inr ⟨s,e.symm⟩))))))⟩,λb hb hK=> ?_⟩
 ·rw[UO (x:=j)]at hm
  exact hm
 ·by_cases e:t=s
  ·subst e;simp[Proofs.YthbifaoaiggooaaGreatDoor.jH,gI]at ht
  ·simp only[Proofs.YthbifaoaiggooaaGreatDoor.jH,gI,e,bN]at ht⊢
   exact h.y8 t ht
 ·rcases hK with hK|hK|hK|hK|hK|hK|⟨t,hK⟩
  ·exact .inl hK
  ·exact .inr (.inl hK)
  ·exact .inr (.inr (.inl hK))
  ·exact .inr (.inr (.inr (.inl hK)))
  ·exact .inr (.inr (.inr (.inr (.inl hK))))
  ·exact .inr (.inr (.inr (.inr (.inr (.inl hK)))))
  ·refine .inr (.inr (.inr (.inr (.inr (.inr ?_)))))
   by_cases e:t=s
   ·subst e
    simp only[yV]at hK;rcases hat b hK with e1|e1
    ·exact⟨_,e1⟩
    ·omega
   ·simp only[Av _ e]at hK
    exact⟨t,hK⟩
end
end Go.Proofs.YthbifaoaiggooaaGreatDoor
