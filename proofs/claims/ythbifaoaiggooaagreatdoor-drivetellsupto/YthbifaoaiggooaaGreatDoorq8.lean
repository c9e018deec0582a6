import Derived.Test.YthbifaoaiggooaaGreatDoorq7
namespace Go.Proofs.YthbifaoaiggooaaGreatDoor
open Go.RowKit
def KN(R:List Ru)(i:Nat)(Nu:List Bool):List Bool:=if AL Nu (R.getD i (0,[])).2 then Nu.set (R.getD i (0,[])).1.toNat true else Nu
def iL(R:List Ru)(N:Nat):List Bool:=bf (N+1) (λ_=>bf R.length (KN R)) (List.replicate N false)
def GY(R:List Ru)(Nu:List Bool)(i t:Nat)(Fi:List (List Bool)):List (List Bool):=if AO Nu Fi t (R.getD i (0,[])).2 then set2 Fi (R.getD i (0,[])).1.toNat t else Fi
def mU(R:List Ru)(Nu:List Bool)(T N:Nat):List (List Bool):=bf (N+1) (λ_=>bf R.length λi=>bf T λt=>GY R Nu i t) (List.replicate N (List.replicate T false))
def OY(R:List Ru)(Nu:List Bool)(Fi:List (List Bool))(T i k t:Nat)(Fo:List (List Bool)):List (List Bool):=
 if (decide (t<T)&&AO Nu Fi t ((R.getD i (0,[])).2.drop (k+1)))||(AL Nu ((R.getD i (0,[])).2.drop (k+1))&&(Fo.getD (R.getD i (0,[])).1.toNat []).getD t false) then
  set2 Fo ((R.getD i (0,[])).2.getD k (false,0)).2.toNat t
 else Fo
def GZ(R:List Ru)(Nu:List Bool)(Fi:List (List Bool))(T i k:Nat)(Fo:List (List Bool)):List (List Bool):=
 if ((R.getD i (0,[])).2.getD k (false,0)).1 then Fo else bf (T+1) (λt=>OY R Nu Fi T i k t) Fo
def KO(R:List Ru)(Nu:List Bool)(Fi:List (List Bool))(T N:Nat):List (List Bool):=
 bf (N+1) (λ_=>bf R.length λi=>bf (R.getD i (0,[])).2.length λk=>GZ R Nu Fi T i k) (set2 (List.replicate N (List.replicate (T+1) false)) 0 T)
section
variable{w:World}{base sb T N mf mg:Nat}{nv fv gv:Value}{vf vg:Nat->Value}{Nu:List Bool}{Fi Fo:List (List Bool)}
theorem adn{w:World}{base n:Nat}{v:Value}{X:List Bool}{e:TypeId}(h:w.ownsRow base e 1 v n (X.map Value.bool)):kg w v X:=by
 have hl:X.length=n:=by simpa using h.1
 obtain⟨a,c,hv⟩:=cO h;refine⟨⟨a,c,by rw[hv,hl]⟩,λi hi=> ?_⟩;obtain⟨g,cap,rfl,_,_⟩:=h.form (by omega);refine⟨g,0,cap,by rw[hl],?_⟩;have:=h.cellAt i (by omega);rw[eO,this];simp[List.getD,hi]
end
end Go.Proofs.YthbifaoaiggooaaGreatDoor
namespace Go.Proofs.YthbifaoaiggooaaGreatDoor
def nS(X:List Bool)(n:Int):Prop:=0<=n/\X.getD n.toNat false=true
def fV(F:List (List Bool))(t:Nat)(n:Int):Prop:=0<=n/\(F.getD n.toNat []).getD t false=true
theorem G5{X:List Bool}{l:Nat}(hl:l<X.length){n:Int}:nS (X.set l true) n↔n=(l:Int)\/nS X n:=by
 unfold nS;constructor
 ·rintro ⟨h0,h1⟩
  by_cases e:n.toNat=l
  ·exact .inl (by omega)
  ·right
   refine⟨h0,?_⟩;rw[<-h1];simp[List.getD,List.getElem?_set_ne (λh=>e h.symm)]
 ·rintro (rfl|⟨h0,h1⟩)
  ·exact⟨by omega,by simp[List.getD,hl]⟩
  ·refine⟨h0,?_⟩
   by_cases e:n.toNat=l
   ·subst e;simp[List.getD,hl]
   ·rw[<-h1];simp[List.getD,List.getElem?_set_ne (λh=>e h.symm)]
theorem zl{F:List (List Bool)}{l t:Nat}(hl:l<F.length)(ht:t<(F.getD l []).length){u:Nat}{n:Int}:fV (set2 F l t) u n↔(n=(l:Int)/\u=t)\/fV F u n:=by
 unfold fV;rw[GX];by_cases e:n.toNat=l
 ·rw[au ⟨e,hl⟩]
  by_cases eu:u=t
  ·subst eu
   constructor
   ·rintro ⟨h0,_⟩;exact .inl ⟨by omega,rfl⟩
   ·intro h
    have h0:0<=n:=by rcases h with⟨rfl,_⟩|⟨h,_⟩<;>omega
    exact⟨h0,by generalize F.getD l []=X at ht;simp[List.getD,ht]⟩
  ·have:((F.getD l []).set t true).getD u false=(F.getD l []).getD u false:=by generalize F.getD l []=X;simp[List.getD,List.getElem?_set_ne (λh=>eu h.symm)]
   rw[this,e];constructor
   ·intro h;exact .inr h
   ·rintro (⟨_,h⟩|h)
    ·exact absurd h eu
    ·exact h
 ·rw[aj (λh=>e h.1)]
  constructor
  ·intro h;exact .inr h
  ·rintro (⟨rfl,_⟩|h)
   ·exact absurd (by omega) e
   ·exact h
theorem Eh{X:List Bool}{l:List Sy}(h:∀s∈l,s.1=false->0<=s.2):AL X l=true↔mO (nS X) l:=by
 unfold AL mO nS;rw[qO];constructor
 ·intro hh s hs
  have:=hh s hs;simp only[bG,FE]at this;exact⟨this.1,h s hs this.1,this.2⟩
 ·intro hh s hs
  obtain⟨h1,_,h2⟩:=hh s hs;rw[h1,h2];rfl
theorem KP{X:List Bool}{F:List (List Bool)}{t:Nat}{l:List Sy}(h:∀s∈l,s.1=false->0<=s.2):AO X F t l=true↔mP (nS X) (fV F t) t l:=by
 unfold AO mP;rw[List.any_eq_true];constructor
 ·rintro ⟨i,hi,hh⟩
  have hil:i<l.length:=jC.1 hi;simp only[bG]at hh;have e:l.getD i (false,0)=l[i]:=by simp[List.getD,hil]
  rw[e]at hh;refine⟨i,l[i],by simp[hil],?_,(Eh λs hs=>h s (wR hs)).1 hh.1⟩;have G6:=hh.2;unfold OJ at G6;cases hb:(l[i]).1 with
  |true=>rw[hb]at G6;exact .inl ⟨rfl,by simpa using G6⟩
  |false=>rw[hb]at G6;exact .inr ⟨rfl,h _ (jO hil) hb,by simpa using G6⟩
 ·rintro ⟨i,s,hs,hh,hn⟩
  have hil:i<l.length:=(qw.1 hs).1;have e:l.getD i (false,0)=s:=by simp[List.getD,hs]
  refine⟨i,jC.2 hil,?_⟩;rw[(Eh λs hs=>h s (wR hs)).2 hn,e];unfold OJ;rcases hh with⟨h1,h2⟩|⟨h1,_,h2⟩
  ·simp[h1,h2]
  ·simp[h1];simpa [List.getD] using h2
section
variable{T N:Nat}{R:List Ru}(hf:dD T N R)
include hf
theorem AV{i:Nat}(hi:i<R.length):R.getD i (0,[])∈R:=by
 have _:=hf.some;simp[List.getD,hi]
theorem G7{i:Nat}(hi:i<R.length):∀s∈(R.getD i (0,[])).2,s.1=false->0<=s.2:=λs hs h=>(hf.name _ (AV hf hi) s hs h).1
theorem Vv:(iL R N).length=N/\∀n,nS (iL R N) n↔fH N R n:=by
 have hm:=Ty hf
 have main:=qz (n:=N+1) (f:=λ_=>bf R.length (KN R)) (x:=List.replicate N false)
  (λk X=>X.length=N/\(∀n,nS X n->fH N R n)/\∀n,Lv (BZ R) k n->nS X n)
  ⟨by simp,λn hn=>by
    unfold nS at hn;have:=hn.2;by_cases h:n.toNat<N
    ·simp[List.getD,h]at this
    ·simp[List.getD,List.getElem?_eq_none (show (List.replicate N false).length<=n.toNat by simp;omega)]at this,λn hn=>hn.elim⟩
  (λk _ X ⟨h1,h2,h3⟩=>by
    have inner:=qz (n:=R.length) (f:=KN R) (x:=X)
     (λi Y=>Y.length=N/\(∀n,nS Y n->fH N R n)/\(∀n,Lv (BZ R) k n->nS Y n)/\∀j,j<i->mO (Lv (BZ R) k) (R.getD j (0,[])).2->nS Y (R.getD j (0,[])).1)
     ⟨h1,h2,h3,λj hj=>absurd hj (iI _)⟩
     (λi hi Y ⟨y1,y2,y3,y4⟩=>by
       have hL:=hf.left _ (AV hf hi);have hl:(R.getD i (0,[])).1.toNat<Y.length:=by omega
       have hcast:(((R.getD i (0,[])).1.toNat:Nat):Int)=(R.getD i (0,[])).1:=by omega
       unfold KN;cases hb:AL Y (R.getD i (0,[])).2 with
       |true=>
        simp only[bQ];have hall:=(Eh (G7 hf hi)).1 hb;refine⟨by simp[y1],λn hn=> ?_,λn hn=>(G5 hl).2 (.inr (y3 n hn)),λj hj ha=> ?_⟩
        ·rcases(G5 hl).1 hn with rfl|hn
         ·rw[hcast]
          exact oG hm _ ⟨_,AV hf hi,rfl,hall.mono y2⟩
         ·exact y2 n hn
        ·rcases fJ.1 hj with hj|rfl
         ·exact(G5 hl).2 (.inr (y4 j hj ha))
         ·exact(G5 hl).2 (.inl hcast.symm)
       |false=>
        simp only[dO,bN];refine⟨y1,y2,y3,λj hj ha=> ?_⟩;rcases fJ.1 hj with hj|rfl
        ·exact y4 j hj ha
        ·rw[(Eh (G7 hf hi)).2 (ha.mono y3)]at hb;cases hb)
    obtain⟨z1,z2,_,z4⟩:=inner;refine⟨z1,z2,λn hn=> ?_⟩;obtain⟨r,hr,rfl,ha⟩:=hn;obtain⟨j,hj,rfl⟩:=kE hr;have e:R.getD j (0,[])=R[j]:=by simp[List.getD,hj]
    have:=z4 j hj (by rw[e];exact ha)
    rwa [e]at this)
 obtain⟨m1,m2,m3⟩:=main;exact⟨m1,λn=>⟨m2 n,λhn=>m3 n (F6 hm N n hn)⟩⟩
def Shape(N w:Nat)(F:List (List Bool)):Prop:=F.length=N/\∀n,n<N->(F.getD n []).length=w
omit hf in
theorem Shape.set2{N w:Nat}{F:List (List Bool)}(h:Shape N w F)(l t:Nat):Shape N w (set2 F l t):=by
 refine⟨by rw[adi];exact h.1,λn hn=> ?_⟩;rw[GX];split
 ·rename_i e
  rw[qU,<-e.1];exact h.2 n hn
 ·exact h.2 n hn
omit hf in
theorem Shape.replicate(N w:Nat):Shape N w (List.replicate N (List.replicate w false)):=by
 refine⟨by simp,λn hn=> ?_⟩;simp[List.getD,hn]
omit hf in
theorem Vw{N w t:Nat}{n:Int}:¬fV (List.replicate N (List.replicate w false)) t n:=by
 rintro ⟨_,h⟩;by_cases h1:n.toNat<N
 ·by_cases h2:t<w
  ·simp[List.getD,h1,h2]at h
  ·simp[List.getD,h1,h2]at h
 ·simp[List.getD,h1]at h
theorem Vx{Nu:List Bool}(OZ:∀n,nS Nu n↔fH N R n):Shape N T (mU R Nu T N)/\∀t,t<T->∀n,fV (mU R Nu T N) t n↔jG N R t n:=by
 have hNe:nS Nu=fH N R:=funext λn=>propext (OZ n);have hm:=λt:Int=>NW hf (fH N R) t
 have main:=qz (n:=N+1) (f:=λ_=>bf R.length λi=>bf T λt=>GY R Nu i t) (x:=List.replicate N (List.replicate T false))
  (λk X=>Shape N T X/\(∀t,t<T->∀n,fV X t n->jG N R t n)/\∀t,t<T->∀n,Lv (Ao R (fH N R) t) k n->fV X t n)
  ⟨Shape.replicate N T,λt _ n hn=>absurd hn Vw,λt _ n hn=>hn.elim⟩
  (λk _ X ⟨h1,h2,h3⟩=>by
    have inner:=qz (n:=R.length) (f:=λi=>bf T λt=>GY R Nu i t) (x:=X)
     (λi Y=>Shape N T Y/\(∀t,t<T->∀n,fV Y t n->jG N R t n)/\(∀t,t<T->∀n,Lv (Ao R (fH N R) t) k n->fV Y t n)/\
       ∀j,j<i->∀t,t<T->mP (fH N R) (Lv (Ao R (fH N R) t) k) t (R.getD j (0,[])).2->fV Y t (R.getD j (0,[])).1)
     ⟨h1,h2,h3,λj hj=>absurd hj (iI _)⟩
     (λi hi Y ⟨y1,y2,y3,y4⟩=>by
       have hL:=hf.left _ (AV hf hi);have hcast:(((R.getD i (0,[])).1.toNat:Nat):Int)=(R.getD i (0,[])).1:=by omega
       have deep:=qz (n:=T) (f:=λt=>GY R Nu i t) (x:=Y)
        (λu Z=>Shape N T Z/\(∀t,t<T->∀n,fV Z t n->jG N R t n)/\(∀t n,fV Y t n->fV Z t n)/\
          ∀t,t<u->t<T->mP (fH N R) (Lv (Ao R (fH N R) t) k) t (R.getD i (0,[])).2->fV Z t (R.getD i (0,[])).1)
        ⟨y1,y2,λ_ _ h=>h,λt ht=>absurd ht (iI _)⟩
        (λu hu Z ⟨z1,z2,z3,z4⟩=>by
          have hl:(R.getD i (0,[])).1.toNat<Z.length:=by rw[z1.1];omega
          have hw:u<(Z.getD (R.getD i (0,[])).1.toNat []).length:=by rw[z1.2 _ (by omega)];exact hu
          unfold GY;cases hb:AO Nu Z u (R.getD i (0,[])).2 with
          |true=>
           simp only[bQ];have zm:=(KP (G7 hf hi)).1 hb;rw[hNe]at zm;refine⟨z1.set2 _ _,λt ht n hn=> ?_,λt n hn=>(zl hl hw).2 (.inr (z3 t n hn)),λt ht tq ha=> ?_⟩
           ·rcases(zl hl hw).1 hn with⟨rfl,rfl⟩|hn
            ·rw[hcast]
             exact oG (hm t) _ ⟨_,AV hf hi,rfl,zm.mono (z2 t ht)⟩
            ·exact z2 t ht n hn
           ·rcases fJ.1 ht with ht|rfl
            ·exact(zl hl hw).2 (.inr (z4 t ht tq ha))
            ·exact(zl hl hw).2 (.inl ⟨hcast.symm,rfl⟩)
          |false=>
           simp only[dO,bN];refine⟨z1,z2,z3,λt ht tq ha=> ?_⟩;rcases fJ.1 ht with ht|rfl
           ·exact z4 t ht tq ha
           ·have:AO Nu Z t (R.getD i (0,[])).2=true:=(KP (G7 hf hi)).2 (by rw[hNe];exact ha.mono λn hn=>z3 t n (y3 t tq n hn))
            rw[this]at hb;cases hb)
       obtain⟨d1,d2,d3,d4⟩:=deep;refine⟨d1,d2,λt ht n hn=>d3 t n (y3 t ht n hn),λj hj t ht ha=> ?_⟩;rcases fJ.1 hj with hj|rfl
       ·exact d3 t _ (y4 j hj t ht ha)
       ·exact d4 t ht ht ha)
    obtain⟨z1,z2,_,z4⟩:=inner;refine⟨z1,z2,λt ht n hn=> ?_⟩;obtain⟨r,hr,rfl,ha⟩:=hn;obtain⟨j,hj,rfl⟩:=kE hr;have e:R.getD j (0,[])=R[j]:=by simp[List.getD,hj]
    have:=z4 j hj t ht (by rw[e];exact ha)
    rwa [e]at this)
 obtain⟨m1,m2,m3⟩:=main;exact⟨m1,λt ht n=>⟨m2 t ht n,λhn=>m3 t ht n (F6 (hm t) N n hn)⟩⟩
theorem ado{Nu:List Bool}{Fi:List (List Bool)}(OZ:∀n,nS Nu n↔fH N R n)(Ei:∀t,t<T->∀n,fV Fi t n↔jG N R t n):
 Shape N (T+1) (KO R Nu Fi T N)/\∀t,t<T+1->∀n,fV (KO R Nu Fi T N) t n↔qZ T N R t n:=by
 have hNe:nS Nu=fH N R:=funext λn=>propext (OZ n);have Vy:∀t,t<T->fV Fi t=jG N R t:=λt ht=>funext λn=>propext (Ei t ht n);have hm:=λt:Int=>F8 hf (fH N R) (jG N R) t;have h1N:=hf.some;have s0:Shape N (T+1) (set2 (List.replicate N (List.replicate (T+1) false)) 0 T):=(Shape.replicate N (T+1)).set2 0 T
 have h00:∀{u:Nat} {n:Int},fV (set2 (List.replicate N (List.replicate (T+1) false)) 0 T) u n↔n=0/\u=T:=by
  intro u n;rw[zl (by simp;omega) (by rw[(Shape.replicate N (T+1)).2 0 (by omega)];omega)];constructor
  ·rintro (⟨h1,h2⟩|h)
   ·exact⟨by simpa using h1,h2⟩
   ·exact absurd h Vw
  ·rintro ⟨h1,h2⟩;exact .inl ⟨by simpa using h1,h2⟩
 have main:=qz (n:=N+1) (f:=λ_=>bf R.length λi=>bf (R.getD i (0,[])).2.length λk=>GZ R Nu Fi T i k) (x:=set2 (List.replicate N (List.replicate (T+1) false)) 0 T)
  (λm X=>Shape N (T+1) X/\(∀t,t<T+1->∀n,fV X t n->qZ T N R t n)/\(∀t,t<T+1->∀n,Lv (yQ R (fH N R) (jG N R) T t) m n->fV X t n)/\fV X T 0)
  ⟨s0,λt _ n hn=>by
    obtain⟨rfl,rfl⟩:=h00.1 hn
    exact oG (hm t) 0 (.inl ⟨rfl,rfl⟩),λt _ n hn=>hn.elim,h00.2 ⟨rfl,rfl⟩⟩
  (λm _ X ⟨h1,h2,h3,h4⟩=>by
    have inner:=qz (n:=R.length) (f:=λi=>bf (R.getD i (0,[])).2.length λk=>GZ R Nu Fi T i k) (x:=X)
     (λi Y=>Shape N (T+1) Y/\(∀t,t<T+1->∀n,fV Y t n->qZ T N R t n)/\(∀t n,fV X t n->fV Y t n)/\
       ∀j,j<i->∀k n,(R.getD j (0,[])).2[k]?=some (false,n)->∀t,t<T+1->
        (((t:Int)<T/\mP (fH N R) (jG N R t) t ((R.getD j (0,[])).2.drop (k+1)))\/(mO (fH N R) ((R.getD j (0,[])).2.drop (k+1))/\Lv (yQ R (fH N R) (jG N R) T t) m (R.getD j (0,[])).1))->fV Y t n)
     ⟨h1,h2,λ_ _ h=>h,λj hj=>absurd hj (iI _)⟩
     (λi hi Y ⟨y1,y2,y3,y4⟩=>by
       have hL:=hf.left _ (AV hf hi);have hcL:(((R.getD i (0,[])).1.toNat:Nat):Int)=(R.getD i (0,[])).1:=by omega
       have mid:=qz (n:=(R.getD i (0,[])).2.length) (f:=λk=>GZ R Nu Fi T i k) (x:=Y)
        (λq Z=>Shape N (T+1) Z/\(∀t,t<T+1->∀n,fV Z t n->qZ T N R t n)/\(∀t n,fV Y t n->fV Z t n)/\
          ∀k,k<q->∀n,(R.getD i (0,[])).2[k]?=some (false,n)->∀t,t<T+1->
           (((t:Int)<T/\mP (fH N R) (jG N R t) t ((R.getD i (0,[])).2.drop (k+1)))\/(mO (fH N R) ((R.getD i (0,[])).2.drop (k+1))/\Lv (yQ R (fH N R) (jG N R) T t) m (R.getD i (0,[])).1))->fV Z t n)
        ⟨y1,y2,λ_ _ h=>h,λk hk=>absurd hk (iI _)⟩
        (λq hq Z ⟨z1,z2,z3,z4⟩=>by
          obtain⟨⟨tb,v⟩,hs⟩:∃s,(R.getD i (0,[])).2[q]?=some s:=⟨(R.getD i (0,[])).2[q],by simp⟩;have hgs:(R.getD i (0,[])).2.getD q (false,0)=(tb,v):=by generalize (R.getD i (0,[])).2=l at*;simp[List.getD,hs]
          unfold GZ;rw[hgs];cases tb with
          |true=>
           simp only[bQ];refine⟨z1,z2,z3,λk hk n hn=> ?_⟩;rcases fJ.1 hk with hk|rfl
           ·exact z4 k hk n hn
           ·rw[hs]at hn;cases hn
          |false=>
           simp only[dO,bN];have hmem:(false,v)∈(R.getD i (0,[])).2:=ou hs;have hv:=hf.name _ (AV hf hi) _ hmem rfl;simp only at hv;have hcv:((v.toNat:Nat):Int)=v:=by omega
           have hpos:∀s∈(R.getD i (0,[])).2.drop (q+1),s.1=false->0<=s.2:=λs hs'=>G7 hf hi s (BK hs')
           have deep:=qz (n:=T+1) (f:=λt=>OY R Nu Fi T i q t) (x:=Z)
            (λu V=>Shape N (T+1) V/\(∀t,t<T+1->∀n,fV V t n->qZ T N R t n)/\(∀t n,fV Z t n->fV V t n)/\
              ∀t,t<u->t<T+1->(((t:Int)<T/\mP (fH N R) (jG N R t) t ((R.getD i (0,[])).2.drop (q+1)))\/(mO (fH N R) ((R.getD i (0,[])).2.drop (q+1))/\Lv (yQ R (fH N R) (jG N R) T t) m (R.getD i (0,[])).1))->fV V t v)
            ⟨z1,z2,λ_ _ h=>h,λt ht=>absurd ht (iI _)⟩
            (λu hu V ⟨v1,v2,v3,v4⟩=>by
              have hl:v.toNat<V.length:=by rw[v1.1];omega
              have hw:u<(V.getD v.toNat []).length:=by rw[v1.2 _ (by omega)];exact hu
              unfold OY;rw[hgs];cases hb:((decide (u<T)&&AO Nu Fi u ((R.getD i (0,[])).2.drop (q+1)))||(AL Nu ((R.getD i (0,[])).2.drop (q+1))&&(V.getD (R.getD i (0,[])).1.toNat []).getD u false)) with
              |true=>
               simp only[bQ]
               have adp:yQ R (fH N R) (jG N R) T u (qZ T N R u) v:=by
                refine .inr ⟨_,AV hf hi,q,hs,?_⟩;simp only[Bool.or_eq_true,bG,bX]at hb;rcases hb with⟨b1,b2⟩|⟨b1,b2⟩
                ·have:=(KP hpos).1 b2
                 rw[hNe,Vy u b1]at this;exact .inl ⟨by omega,this⟩
                ·have:=(Eh hpos).1 b1
                 rw[hNe]at this;exact .inr ⟨this,v2 u hu _ ⟨hL.1,b2⟩⟩
               refine⟨v1.set2 _ _,λt ht n hn=> ?_,λt n hn=>(zl hl hw).2 (.inr (v3 t n hn)),λt ht tq ha=> ?_⟩
               ·rcases(zl hl hw).1 hn with⟨rfl,rfl⟩|hn
                ·rw[hcv]
                 exact oG (hm t) _ adp
                ·exact v2 t ht n hn
               ·rcases fJ.1 ht with ht|rfl
                ·exact(zl hl hw).2 (.inr (v4 t ht tq ha))
                ·exact(zl hl hw).2 (.inl ⟨hcv.symm,rfl⟩)
              |false=>
               simp only[dO,bN];refine⟨v1,v2,v3,λt ht tq ha=> ?_⟩;rcases fJ.1 ht with ht|rfl
               ·exact v4 t ht tq ha
               ·exfalso
                simp only[Bool.or_eq_false_iff]at hb;rcases ha with⟨a1,a2⟩|⟨a1,a2⟩
                ·have ht':t<T:=by omega
                 have:AO Nu Fi t ((R.getD i (0,[])).2.drop (q+1))=true:=(KP hpos).2 (by rw[hNe,Vy t ht'];exact a2);rw[this]at hb;simp[ht']at hb
                ·have hn1:AL Nu ((R.getD i (0,[])).2.drop (q+1))=true:=(Eh hpos).2 (by rw[hNe];exact a1)
                 have hn2:=(v3 t _ (z3 t _ (y3 t _ (h3 t tq _ a2)))).2;rw[hn1,hn2]at hb
                 simp at hb)
           obtain⟨d1,d2,d3,d4⟩:=deep;refine⟨d1,d2,λt n hn=>d3 t n (z3 t n hn),λk hk n hn t ht ha=> ?_⟩;rcases fJ.1 hk with hk|rfl
           ·exact d3 t n (z4 k hk n hn t ht ha)
           ·rw[hs]at hn
            cases hn
            exact d4 t ht ht ha)
       obtain⟨z1,z2,z3,z4⟩:=mid;refine⟨z1,z2,λt n hn=>z3 t n (y3 t n hn),λj hj k n hn t ht ha=> ?_⟩;rcases fJ.1 hj with hj|rfl
       ·exact z3 t n (y4 j hj k n hn t ht ha)
       ·exact z4 k (qw.1 hn).1 n hn t ht ha)
    obtain⟨z1,z2,z3,z4⟩:=inner;refine⟨z1,z2,λt ht n hn=> ?_,z3 _ _ h4⟩;rcases hn with⟨rfl,hT⟩|⟨r,hr,k,hk,ha⟩
    ·obtain rfl:t=T:=by omega
     exact z3 _ _ h4
    ·obtain⟨j,hj,rfl⟩:=kE hr
     have e:R.getD j (0,[])=R[j]:=by simp[List.getD,hj]
     exact z4 j hj k n (by rw[e];exact hk) t ht (by rw[e];exact ha))
 obtain⟨m1,m2,m3,_⟩:=main;exact⟨m1,λt ht n=>⟨m2 t ht n,λhn=>m3 t ht n (F6 (hm t) N n hn)⟩⟩
end
end Go.Proofs.YthbifaoaiggooaaGreatDoor
namespace Go.Proofs.YthbifaoaiggooaaGreatDoor
open Go.RowKit
abbrev Ce:=Int×List Int×Bool
def G8(w:World)(v:Value)(X:List Ce):Prop:=
 (∃a c,v= .slice a X.length c)/\∀k,k<X.length->∃b o c rl,v= .slice (some ⟨b,o,none⟩) X.length c/\w.cell? ⟨b,o+k*3,none⟩=some (.int .i64 (X.getD k (0,[],false)).1)/\
  w.cell? ⟨b,o+k*3+1,none⟩=some rl/\aY w w.heap.size rl (X.getD k (0,[],false)).2.1/\w.cell? ⟨b,o+k*3+2,none⟩=some (.bool (X.getD k (0,[],false)).2.2)
def G9(w:World)(v:Value)(X:List (List Ce)):Prop:=
 (∃a c,v= .slice a X.length c)/\∀i,i<X.length->∃b o c rv,v= .slice (some ⟨b,o,none⟩) X.length c/\w.cell? ⟨b,o+i,none⟩=some rv/\G8 w rv (X.getD i [])
def KQ(w:World)(v:Value)(X:List (List Int)):Prop:=
 (∃a c,v= .slice a X.length c)/\∀i,i<X.length->∃b o c rv,v= .slice (some ⟨b,o,none⟩) X.length c/\w.cell? ⟨b,o+i,none⟩=some rv/\aY w w.heap.size rv (X.getD i [])
structure TabAt(w:World)(cv gv:Value)(C:List (List Ce))(G:List (List Int)):Prop where
 cells:G9 w cv C
 goto:KQ w gv G
section
variable{w w':World}
theorem G8.below{v:Value}{X:List Ce}(h:G8 w v X)(hb:Below w.heap.size w w'):G8 w' v X:=
 ⟨h.1,λk hk=>let ⟨b,o,c,rl,h1,h2,h3,h4,h5⟩:=h.2 k hk;⟨b,o,c,rl,h1,(hb.cell (aQ _ _ h2)).trans h2,(hb.cell (aQ _ _ h3)).trans h3,(h4.below hb).mono hb.size,(hb.cell (aQ _ _ h5)).trans h5⟩⟩
theorem G9.below{v:Value}{X:List (List Ce)}(h:G9 w v X)(hb:Below w.heap.size w w'):G9 w' v X:=
 ⟨h.1,λk hk=>let ⟨b,o,c,rv,h1,h2,h3⟩:=h.2 k hk;⟨b,o,c,rv,h1,(hb.cell (aQ _ _ h2)).trans h2,h3.below hb⟩⟩
theorem KQ.below{v:Value}{X:List (List Int)}(h:KQ w v X)(hb:Below w.heap.size w w'):KQ w' v X:=
 ⟨h.1,λk hk=>let ⟨b,o,c,rv,h1,h2,h3⟩:=h.2 k hk;⟨b,o,c,rv,h1,(hb.cell (aQ _ _ h2)).trans h2,(h3.below hb).mono hb.size⟩⟩
theorem TabAt.below{cv gv:Value}{C:List (List Ce)}{G:List (List Int)}(h:TabAt w cv gv C G)(hb:Below w.heap.size w w'):TabAt w' cv gv C G:=⟨h.cells.below hb,h.goto.below hb⟩
end
def AX(c:Ce):Bool:=(decide (c.2.1.length=0)&& !c.2.2)||(decide (c.1<0)&&(decide (c.2.1.length=0)||(decide (c.2.1.length=1)&& !c.2.2)))
def qd(X:List Ce):Nat:=(X.filter λc=> !AX c).length
def gZ(C:List (List Ce)):Nat:=(C.map qd).sum
theorem adq{X:List Ce}{k:Nat}(hk:k<X.length):qd (X.take (k+1))=qd (X.take k)+(if AX (X.getD k (0,[],false)) then 0 else 1):=by
 have e:X.getD k (0,[],false)=X[k]:=by simp[List.getD,hk]
 unfold qd;rw[fT hk,Dt,aS,e];cases h:AX X[k]<;>simp[h]
theorem Vz{C:List (List Ce)}{i:Nat}(hi:i<C.length):gZ (C.take (i+1))=gZ (C.take i)+qd (C.getD i []):=by
 have e:C.getD i []=C[i]:=by simp[List.getD,hi]
 unfold gZ;rw[fT hi,fD,Ab,e];simp
theorem VA(X:List Ce):qd X<=X.length:=vv _ _
theorem VB{C:List (List Ce)}{m:Nat}(h:∀i,i<C.length->(C.getD i []).length<=m):gZ C<=C.length*m:=by
 have:∀n,n<=C.length->gZ (C.take n)<=n*m:=by
  intro n
  induction n with
  |zero=>simp[gZ]
  |succ n ih=>
   intro hn;rw[Vz (by omega),Nat.add_mul];have:=ih (by omega);have:=VA (C.getD n []);have:=h n (by omega);omega
 have h1:=this C.length (ah _)
 rwa [gH]at h1
end Go.Proofs.YthbifaoaiggooaaGreatDoor
namespace Go.Proofs.YthbifaoaiggooaaGreatDoor
section
open Classical
def AY(T N:Nat)(R:List Ru)(NL:List (List Int))(Ls:List aV)(k t n:Nat):Prop:=Ls.getD k cu (n,(aR R n).length)/\KL T R (iL R N) (mU R (iL R N) T N) NL Ls k (n,(aR R n).length) t
noncomputable def cellP(T N:Nat)(R:List Ru)(NL:List (List Int))(Ls:List aV)(k t:Nat):Ce:=
 (if t<T then (NL.getD k []).getD t 0 else -1,((List.range R.length).filter λn=>decide (AY T N R NL Ls k t n)).map λn=>((n:Nat):Int),decide (AY T N R NL Ls k t R.length))
noncomputable def rowP(T N:Nat)(R:List Ru)(NL:List (List Int))(Ls:List aV)(k:Nat):List Ce:=(List.range (T+1)).map (cellP T N R NL Ls k)
noncomputable def dF(T N:Nat)(R:List Ru)(K:Nat):List (List Ce):=(List.range K).map (rowP T N R (ax T N R K).1 (ax T N R K).2)
noncomputable def jo(T N:Nat)(R:List Ru)(K:Nat):List (List Int):=(List.range K).map λk=>((ax T N R K).1.getD k []).drop T
end
end Go.Proofs.YthbifaoaiggooaaGreatDoor
namespace Go.Proofs.YthbifaoaiggooaaGreatDoor
open Classical
theorem VD{α:Type}{lt:α->α->Prop}(tr:∀a b c,lt a b->lt b c->lt a c)(ir:∀a,¬lt a a){A B:List α}(hA:A.Pairwise lt)(hB:B.Pairwise lt)(h:∀x,x∈A↔x∈B):A=B:=by
 induction A generalizing B with
 |nil=>
  cases B with
  |nil=>rfl
  |cons b B=>exact absurd ((h b).2 (by simp)) (by simp)
 |cons a A ih=>
  cases B with
  |nil=>exact absurd ((h a).1 (by simp)) (by simp)
  |cons b B=>
   rw[List.pairwise_cons]at hA hB
   have hab:a=b:=by
    rcases iW.1 ((h a).1 (by simp)) with e|e
    ·exact e
    ·rcases iW.1 ((h b).2 (by simp)) with e'|e'
     ·exact e'.symm
     ·exact absurd (tr _ _ _ (hA.1 b e') (hB.1 a e)) (ir a)
   subst hab;rw[ih hA.2 hB.2 λx=>⟨λhx=> ?_,λhx=> ?_⟩]
   ·rcases iW.1 ((h x).1 (by simp[hx])) with e|e
    ·subst e;exact absurd (hA.1 x hx) (ir x)
    ·exact e
   ·rcases iW.1 ((h x).2 (by simp[hx])) with e|e
    ·subst e;exact absurd (hB.1 x hx) (ir x)
    ·exact e
def jL(a b:It):Prop:=a.1<b.1\/(a.1=b.1/\a.2<b.2)
theorem VF(a b c:It)(h:jL a b)(k:jL b c):jL a c:=by unfold jL at*;omega
theorem O0(a:It):¬jL a a:=by unfold jL;omega
theorem VG{L:List It}(h:L.Pairwise jL):L.Nodup:=h.imp λ{a b} h e=>by subst e;exact O0 a h
structure kK(R:List Ru)(OL:List (List It))(Ls:List aV):Prop where
 len:OL.length=Ls.length
 lI:∀i,i<OL.length->xM (OL.getD i []) (Ls.getD i cu)
 He:∀i,i<OL.length->(OL.getD i []).Pairwise jL
 dist:Vi Ls
 ok:∀i,i<OL.length->∀t∈OL.getD i [],qb R t
section
variable{T N:Nat}{R:List Ru}{OL:List (List It)}{Ls:List aV}{k x:Nat}
theorem kK.push(h:kK R OL Ls){C:List It}{S:aV}(hC:xM C S)(hs:C.Pairwise jL)(hno:∀n,n<Ls.length->Ls.getD n cu≠S)(hok:∀t∈C,qb R t):kK R (OL++[C]) (Ls++[S]):=by
 have hl:=h.len
 have Hf:∀i,i<(OL++[C]).length->(i<OL.length/\(OL++[C]).getD i []=OL.getD i []/\(Ls++[S]).getD i cu=Ls.getD i cu)\/(i=OL.length/\(OL++[C]).getD i []=C/\(Ls++[S]).getD i cu=S):=λi hi=>by
  simp only[aS,List.length_cons,List.length_nil]at hi;rcases fJ.1 hi with hi|hi
  ·exact .inl ⟨hi,Vl hi,Vl (by omega)⟩
  ·exact .inr ⟨hi,Vm hi,Vm (by omega)⟩
 refine⟨by simp[hl],λi hi=> ?_,λi hi=> ?_,λi j hi hj e=> ?_,λi hi=> ?_⟩
 ·rcases Hf i hi with⟨h1,h2,h3⟩|⟨h1,h2,h3⟩
  ·rw[h2,h3];exact h.lI i h1
  ·rw[h2,h3];exact hC
 ·rcases Hf i hi with⟨h1,h2,_⟩|⟨_,h2,_⟩
  ·rw[h2];exact h.He i h1
  ·rw[h2];exact hs
 ·have hi':i<(OL++[C]).length:=by simp only[aS,List.length_cons,List.length_nil]at hi⊢;omega
  have hj':j<(OL++[C]).length:=by simp only[aS,List.length_cons,List.length_nil]at hj⊢;omega
  rcases Hf i hi' with⟨h1,_,h3⟩|⟨h1,_,h3⟩<;>rcases Hf j hj' with⟨k1,_,k3⟩|⟨k1,_,k3⟩
  ·rw[h3,k3]at e;exact h.dist i j (by omega) (by omega) e
  ·rw[h3,k3]at e;exact absurd e (hno i (by omega))
  ·rw[h3,k3]at e;exact absurd e.symm (hno j (by omega))
  ·omega
 ·rcases Hf i hi with⟨h1,h2,_⟩|⟨_,h2,_⟩
  ·rw[h2];exact h.ok i h1
  ·rw[h2];exact hok
theorem adr(R:List Ru):kK R [] []:=⟨rfl,λ_ hi=>absurd hi (iI _),λ_ hi=>absurd hi (iI _),λ_ _ hi=>absurd hi (iI _),λ_ hi=>absurd hi (iI _)⟩
theorem ads{C:List It}(hs:C.Pairwise jL)(hC:∀i,i∈C↔Cl R (· ∈[(R.length,0)]) i):kK R [C] [Cl R λi=>i=(R.length,0)]:=by
 have e:(λi:It=>i∈[(R.length,0)])=λi=>i=(R.length,0):=funext λi=>by simp
 rw[e]at hC;exact(adr R).push (C:=C) ⟨VG hs,hC⟩ hs (λn hn=>absurd hn (iI _)) (λt ht=>OQ (S:=λi=>i=(R.length,0)) (λi hi=>by rw[hi];exact⟨ah _,aP _⟩) ((hC t).1 ht))
theorem kK.same(h:kK R OL Ls){n:Nat}(hn:n<OL.length){C:List It}{S:aV}(hC:xM C S)(hs:C.Pairwise jL):OL.getD n []=C↔Ls.getD n cu=S:=by
 constructor
 ·intro e
  have:=h.lI n hn;rw[e]at this;exact this.eq hC
 ·intro e
  have:=h.lI n hn;rw[e]at this;exact VD VF O0 (h.He n hn) hs λi=>(this.mem i).trans (hC.mem i).symm
def Hg(OL:List (List It))(C:List It)(n:Nat)(Hl:List (List It)):Prop:=
 (n<OL.length/\OL.getD n []=C/\Hl=OL)\/((∀j,j<OL.length->OL.getD j []≠C)/\n=OL.length/\Hl=OL++[C])
theorem kK.visit(h:kK R OL Ls)(hk:k<OL.length)(hne:dV T R (OL.getD k []) x (OL.getD k []).length≠[]){C:List It}(hs:C.Pairwise jL)(hC:∀i,i∈C↔Cl R (· ∈dV T R (OL.getD k []) x (OL.getD k []).length) i)
 {n:Nat} {Hl:List (List It)} (ht:Hg OL C n Hl):(Proofs.YthbifaoaiggooaaGreatDoor.visit T R Ls k x).1=n/\kK R Hl (Proofs.YthbifaoaiggooaaGreatDoor.visit T R Ls k x).2:=by
 have hrep:=ac5 (h.lI k hk) (VG hs) hC;have hex:∃i,Ls.getD k cu i/\kJ T R i x:=Dr λhno=>hne ((Vk (h.lI k hk)).2 hno);rcases ht with⟨h1,h2,rfl⟩|⟨h1,rfl,rfl⟩
 ·rw[ac0 h.dist hex (by rw[<-h.len];exact h1) ((h.same h1 hrep hs).1 h2)]
  exact⟨rfl,h⟩
 ·have hno:∀n,n<Ls.length->Ls.getD n cu≠rE T R (Ls.getD k cu) x:=λn hnl e=>
   h1 n (by rw[h.len];exact hnl) ((h.same (by rw[h.len];exact hnl) hrep hs).2 e)
  have adt:∀i,Ef T R (Ls.getD k cu) x i->qb R i:=ac8 λi hi=>h.ok k hk i (((h.lI k hk).mem i).2 hi);rw[ac1 hex hno];exact⟨by rw[h.len],h.push hrep hs hno (λt ht=>OQ adt ((hrep.mem t).1 ht))⟩
theorem kK.adu(h:kK R OL Ls)(hk:k<OL.length)(he:dV T R (OL.getD k []) x (OL.getD k []).length=[]):Proofs.YthbifaoaiggooaaGreatDoor.visit T R Ls k x=(-1,Ls):=
 OM ((Vk (h.lI k hk)).1 he)
theorem kK.VH(h:kK R OL Ls)(hk:k<OL.length){j:Nat}:∀i∈dV T R (OL.getD k []) x j,qb R i/\i.2≠0:=λi hi=>by
 unfold dV at hi;obtain⟨b,hb,rfl⟩:=jP.1 hi;rw[sD]at hb;have hbo:=h.ok k hk b (wR hb.1);obtain⟨s,h2,_⟩:kJ T R b x:=by simpa using hb.2
 have:=(qw.1 h2).1;exact⟨⟨hbo.1,by simp only;omega⟩,by simp⟩
end
def dJ(T x:Nat):Sy:=if x<T then (true,(x:Int)) else (false,((x-T:Nat):Int))
theorem Ho(T x:Nat):gy T (dJ T x)=x:=by
 unfold dJ gy;split
 ·simp
 ·simp;omega
theorem KR{T x y:Nat}(h:dJ T x=dJ T y):x=y:=by
 have h1:=Ho T x;rw[h,Ho]at h1;omega
theorem O1{T N:Nat}{s:Sy}(h1:s.1=true->0<=s.2/\s.2<(T:Int))(h2:s.1=false->0<=s.2/\s.2<(N:Int)):dJ T (gy T s).toNat=s/\(gy T s).toNat<T+N:=by
 obtain⟨b,v⟩:=s;cases b with
 |true=>
  have:=h1 rfl;simp only at this;simp only[gy,dJ,bQ];rw[au (by omega)];refine⟨?_,by omega⟩
  congr 1
  omega
 |false=>
  have:=h2 rfl;simp only at this;simp only[gy,dJ,dO,bN];rw[aj (by omega)];refine⟨?_,by omega⟩
  congr 1
  omega
theorem adw{T N:Nat}{R:List Ru}{i:It}{x:Nat}(hR:∀s∈aR R i.1,(s.1=true->0<=s.2/\s.2<(T:Int))/\(s.1=false->0<=s.2/\s.2<(N:Int))):kJ T R i x↔(aR R i.1)[i.2]?=some (dJ T x):=by
 unfold kJ;constructor
 ·rintro ⟨s,h1,h2⟩
  obtain⟨e,_⟩:=O1 (hR s (ou h1)).1 (hR s (ou h1)).2;rw[h1,<-e,h2];simp
 ·intro h
  exact⟨_,h,Ho T x⟩
abbrev Wy:=Nat×Sy
noncomputable def bE(T:Nat)(NL:List (List Int)):Wy->Option Value:=λp=>
 if ∃x,x<(NL.getD p.1 []).length/\p.2=dJ T x/\0<=(NL.getD p.1 []).getD x 0 then some (.int .i64 ((NL.getD p.1 []).getD (gy T p.2).toNat 0)) else none
section
variable{T:Nat}{NL:List (List Int)}
theorem adx(T:Nat):bE T []=λ_=>none:=by
 funext p
 unfold bE;rw[aj];rintro ⟨x,h,_⟩;simp[List.getD]at h
theorem Ej{k x:Nat}(hx:x<(NL.getD k []).length):bE T NL (k,dJ T x)=if 0<=(NL.getD k []).getD x 0 then some (.int .i64 ((NL.getD k []).getD x 0)) else none:=by
 unfold bE;simp only[Ho,Int.toNat_natCast];by_cases h:0<=(NL.getD k []).getD x 0
 ·rw[au h,au ⟨x,hx,rfl,h⟩]
 ·rw[aj h,aj]
  rintro ⟨y,h1,h2,h3⟩;rw[KR h2]at h;exact h h3
theorem O3{k:Nat}{s:Sy}(hs:∀x,s≠dJ T x):bE T NL (k,s)=none:=by
 unfold bE;rw[aj];rintro ⟨x,_,h,_⟩;exact hs x h
theorem ady:bE T (NL++[[]])=bE T NL:=by
 funext p
 unfold bE
 have e:(NL++[[]]).getD p.1 []=NL.getD p.1 []:=by
  by_cases h:p.1<NL.length
  ·simp[List.getD,List.getElem?_append_left h]
  ·rw[List.getD,List.getD,o9 (by omega),nJ (show NL.length<=p.1 by omega)]
   cases h2:p.1-NL.length<;>simp
 rw[e]
theorem VI{row:List Int}{z:Int}:bE T (NL++[row++[z]])=if 0<=z then gX (bE T (NL++[row])) (NL.length,dJ T row.length) (.int .i64 z) else bE T (NL++[row]):=by
 have gk:∀r:List Int,(NL++[r]).getD NL.length []=r:=λr=>by simp[List.getD]
 have go:∀(r:List Int) (k:Nat),k≠NL.length->(NL++[r]).getD k []=NL.getD k []:=λr k hk=>by
  by_cases h:k<NL.length
  ·simp[List.getD,List.getElem?_append_left h]
  ·rw[List.getD,List.getD,o9 (by omega),nJ (show NL.length<=k by omega)]
   rw[nJ (by simp;omega)]
 have VJ:(row++[z]).getD row.length 0=z:=by simp[List.getD]
 have adz:∀x,x<row.length->(row++[z]).getD x 0=row.getD x 0:=λx hx=>by simp[List.getD,List.getElem?_append_left hx]
 have other:∀k s,(k,s)≠(NL.length,dJ T row.length)->bE T (NL++[row++[z]]) (k,s)=bE T (NL++[row]) (k,s):=λk s hne=>by
  by_cases hk:k=NL.length
  ·subst hk
   have hs:s≠dJ T row.length:=λe=>hne (by rw[e]);by_cases hex:∃x,s=dJ T x
   ·obtain⟨x,rfl⟩:=hex
    have hx:x≠row.length:=λe=>hs (by rw[e]);by_cases hl:x<row.length
    ·rw[Ej (by rw[gk];simp;omega),Ej (by rw[gk];exact hl),gk,gk,adz x hl]
    ·unfold bE
     rw[aj,aj]
     ·rintro ⟨y,h1,h2,_⟩
      rw[gk]at h1;have:=KR h2;omega
     ·rintro ⟨y,h1,h2,_⟩
      rw[gk]at h1;simp only[aS,List.length_cons,List.length_nil]at h1;have:=KR h2;omega
   ·rw[O3 (λx e=>hex ⟨x,e⟩),O3 (λx e=>hex ⟨x,e⟩)]
  ·unfold bE
   simp only[go _ k hk]
 by_cases hz:0<=z
 ·rw[au hz]
  funext p
  by_cases hp:p=(NL.length,dJ T row.length)
  ·subst hp
   rw[Ej (by rw[gk];simp),gk,VJ,au hz];simp[gX]
  ·rw[other p.1 p.2 hp]
   simp[gX,hp]
 ·rw[aj hz]
  funext p
  by_cases hp:p=(NL.length,dJ T row.length)
  ·subst hp
   rw[Ej (by rw[gk];simp),gk,VJ,aj hz];unfold bE;rw[aj];rintro ⟨y,h1,h2,_⟩;simp only[gk]at h1;have:=KR h2;omega
  ·exact other p.1 p.2 hp
end
abbrev bB:=Nat×It
def jq(OL:List (List It))(s:bB):Prop:=s.1<OL.length/\s.2∈OL.getD s.1 []
structure lJ(T N:Nat)(R:List Ru)(OL:List (List It))(NL:List (List Int))(Ls:List aV):Prop where
 rF:kK R OL Ls
 go:∀k,k<OL.length->∀x,x<T+N->(NL.getD k []).length=T+N/\AQ T R Ls k x ((NL.getD k []).getD x 0)
 cl:∀k,k<OL.length->AR R (Ls.getD k cu)
 sym:∀r,r<=R.length->∀s∈aR R r,(s.1=true->0<=s.2/\s.2<(T:Int))/\(s.1=false->0<=s.2/\s.2<(N:Int))
 zero:jq OL (0,(R.length,0))
section
variable{T N:Nat}{R:List Ru}{OL:List (List It)}{NL:List (List Int)}{Ls:List aV}{Nu:List Bool}{Fi:List (List Bool)}
theorem lJ.item(A:lJ T N R OL NL Ls){p:bB}(hp:jq OL p):Ls.getD p.1 cu p.2/\qb R p.2:=⟨((A.rF.lI p.1 hp.1).mem _).1 hp.2,A.rF.ok p.1 hp.1 _ hp.2⟩
theorem lJ.on(A:lJ T N R OL NL Ls){p:bB}(hp:jq OL p){s:Sy}(hs:(aR R p.2.1)[p.2.2]?=some s):
 (NL.getD p.1 []).getD (gy T s).toNat 0=((toN NL T p.1 s:Nat):Int)/\jq OL (toN NL T p.1 s,(p.2.1,p.2.2+1)):=by
 obtain⟨h2,h3⟩:=A.item hp;have hsy:=A.sym _ h3.1 s (ou hs);obtain⟨e0,hx⟩:=O1 hsy.1 hsy.2
 have hcast:((gy T s).toNat:Int)=gy T s:=by
  have:=Ho T (gy T s).toNat;rw[e0]at this;omega
 obtain⟨_,hg⟩:=A.go p.1 hp.1 _ hx;obtain⟨n,e1,e2,e3⟩:=hg.some ⟨_,h2,s,hs,hcast.symm⟩;have et:toN NL T p.1 s=n:=by unfold toN;rw[e1];simp
 rw[et,e1];have hn':n<OL.length:=by rw[A.rF.len];exact e2
 refine⟨rfl,hn',((A.rF.lI n hn').mem _).2 ?_⟩;rw[e3];exact Vt h2 hs hcast.symm
theorem lJ.close(A:lJ T N R OL NL Ls){p:bB}(hp:jq OL p){m:Int}(hs:(aR R p.2.1)[p.2.2]?=some (false,m)){n:Nat}(hn:n<R.length)(hL:(R.getD n (0,[])).1=m):jq OL (p.1,(n,0)):=
 ⟨hp.1,((A.rF.lI p.1 hp.1).mem _).2 (adg (A.cl p.1 hp.1) (A.item hp).1 hs hn hL)⟩
end
def maskN(L:List Bool):Nat->Nat
 |0=>0
 |n+1=>if L.getD n false then maskN L n|||2^n else maskN L n
theorem VK(L:List Bool)(n t:Nat):(maskN L n).testBit t=(decide (t<n)&&L.getD t false):=by
 induction n with
 |zero=>simp[maskN]
 |succ n ih=>
  unfold maskN;by_cases h:L.getD n false=true
  ·rw[au h,sH,ih,Dy]
   by_cases e:n=t
   ·subst e;rw[h];simp
   ·have e1:decide (t<n+1)=decide (t<n):=by rw[Dz];omega
    rw[e1];simp[e]
  ·rw[aj h,ih]
   by_cases e:n=t
   ·subst e
    have:L.getD n false=false:=by simpa using h
    rw[this];simp
   ·have e1:decide (t<n+1)=decide (t<n):=by rw[Dz];omega
    rw[e1]
def mV(Fi:List (List Bool))(s:Sy):Nat:=if s.1 then 2^s.2.toNat else maskN (Fi.getD s.2.toNat []) (Fi.getD s.2.toNat []).length
def lK(Nu:List Bool)(Fi:List (List Bool)):Nat->List Sy->Nat×Bool
 |a,[]=>(a,true)
 |a,s::l=>if s.1|| !Nu.getD s.2.toNat false then (a|||mV Fi s,false) else lK Nu Fi (a|||mV Fi s) l
def Hq(T N:Nat)(l:List Sy):Prop:=∀s∈l,(s.1=true->0<=s.2/\s.2<(T:Int))/\(s.1=false->0<=s.2/\s.2<(N:Int))
section
variable{T N:Nat}{Nu:List Bool}{Fi:List (List Bool)}
theorem adA{L:List Bool}(hL:L.length<=T)(t:Nat):(decide (t<L.length)&&L.getD t false)=(decide (t<T)&&L.getD t false):=by
 by_cases h:t<L.length
 ·have:t<T:=by omega
  simp[h,this]
 ·have e:L.getD t false=false:=by simp[List.getD,List.getElem?_eq_none (show L.length<=t by omega)]
  rw[e];simp
theorem VL(hF:∀n,(Fi.getD n []).length<=T)(t:Nat):∀(l:List Sy) (a:Nat),Hq T N l->(lK Nu Fi a l).1.testBit t=(a.testBit t||sZ Nu Fi T l t)/\(lK Nu Fi a l).2=Cj Nu l:=by
 intro l
 induction l with
 |nil=>intro a _;simp[lK,sZ,AU,Cj]
 |cons s l ih=>
  intro a hl;have hs:=hl s (by simp);have hl':Hq T N l:=λx hx=>hl x (mH _ hx);obtain⟨b,v⟩:=s;cases b with
  |true=>
   have hv:=hs.1 rfl;simp only at hv;simp only[lK,Bool.true_or,bQ,mV,sZ,AU];refine⟨?_,by simp[Cj]⟩;rw[sH,Dy]
   congr 1
   rw[Dz];omega
  |false=>
   have VN:(mV Fi (false,v)).testBit t=(decide (t<T)&&(Fi.getD v.toNat []).getD t false):=by
    simp only[mV,dO,bN];rw[VK];exact adA (hF _) t
   have zm:sZ Nu Fi T ((false,v)::l) t=((decide (t<T)&&(Fi.getD v.toNat []).getD t false)||(Nu.getD v.toNat false&&sZ Nu Fi T l t)):=by
    simp only[sZ,AU];by_cases h1:(decide (t<T)&&(Fi.getD v.toNat []).getD t false)=true
    ·rw[au h1,h1];simp
    ·rw[aj h1]
     have h1':(decide (t<T)&&(Fi.getD v.toNat []).getD t false)=false:=by simpa using h1
     rw[h1'];by_cases h2:Nu.getD v.toNat false=true
     ·rw[au h2,h2];simp
     ·rw[aj h2]
      have h2':Nu.getD v.toNat false=false:=by simpa using h2
      rw[h2'];simp
   have VO:Cj Nu ((false,v)::l)=(Nu.getD v.toNat false&&Cj Nu l):=by
    show (((false,v)::l).all λs=> !s.1&&Nu.getD s.2.toNat false)=_;rw[List.all_cons];rfl
   cases hn:Nu.getD v.toNat false with
   |true=>
    have e:lK Nu Fi a ((false,v)::l)=lK Nu Fi (a|||mV Fi (false,v)) l:=by
     rw[lK];simp only;rw[hn];simp
    obtain⟨i1,i2⟩:=ih (a|||mV Fi (false,v)) hl';rw[e,i1,i2,zm,VO,hn,sH,VN];simp[Bool.or_assoc]
   |false=>
    have e:lK Nu Fi a ((false,v)::l)=(a|||mV Fi (false,v),false):=by
     rw[lK];simp only;rw[hn];simp
    rw[e,zm,VO,hn,sH,VN];simp
theorem VP{t:Nat}:∀{l:List Sy},Hq T N l->sZ Nu Fi T l t=true->t<=T:=by
 intro l
 induction l with
 |nil=>intro _ h;simp[sZ,AU]at h
 |cons s l ih=>
  intro hl h;have hs:=hl s (by simp);obtain⟨b,v⟩:=s;cases b with
  |true=>
   have hv:=hs.1 rfl;simp only at hv;simp only[sZ,AU,bX]at h;omega
  |false=>
   simp only[sZ,AU]at h;split at h
   ·rename_i h1
    simp only[bG,bX]at h1;omega
   ·split at h
    ·exact ih (λx hx=>hl x (mH _ hx)) h
    ·cases h
end
def rG(R:List Ru)(m:Int):List Nat:=(List.range R.length).filter λn=>decide ((R.getD n (0,[])).1=m)
def qC(R:List Ru)(Nu:List Bool)(Fi:List (List Bool))(i:It):Nat×Bool:=lK Nu Fi 0 ((aR R i.1).drop (i.2+1))
def zo(R:List Ru)(Nu:List Bool)(Fi:List (List Bool))(i:It)(h:Nat):Nat:=if (qC R Nu Fi i).2 then (qC R Nu Fi i).1|||h else (qC R Nu Fi i).1
def uR(T:Nat)(R:List Ru)(NL:List (List Int))(Nu:List Bool)(Fi:List (List Bool))(p:bB)(h:Nat):List (bB×Nat):=
 match (aR R p.2.1)[p.2.2]? with
 |none=>[]
 |some s=>((toN NL T p.1 s,(p.2.1,p.2.2+1)),h)::(if s.1 then [] else (rG R s.2).map λr=>((p.1,(r,0)),zo R Nu Fi p.2 h))
structure LS where
 lk:bB->Nat
 O:List bB
 c:Nat
def ig(g:bB×Nat)(st:LS):LS:=if st.lk g.1|||g.2=st.lk g.1 then st else ⟨λs=>if s=g.1 then st.lk g.1|||g.2 else st.lk s,st.O++[g.1],st.c+1⟩
def oO(L:List (bB×Nat))(st:LS):LS:=L.foldl (λst g=>ig g st) st
def rH(T:Nat)(R:List Ru)(NL:List (List Int))(Nu:List Bool)(Fi:List (List Bool))(p:bB)(st:LS):LS:=oO (uR T R NL Nu Fi p (st.lk p)) st
def zq(OL:List (List It)):List bB:=(List.range OL.length).flatMap λk=>(OL.getD k []).map λi=>(k,i)
theorem O4{OL:List (List It)}{s:bB}:s∈zq OL↔jq OL s:=by
 unfold zq jq;rw[Aa];constructor
 ·rintro ⟨k,hk,hs⟩
  obtain⟨i,hi,rfl⟩:=jP.1 hs;exact⟨jC.1 hk,hi⟩
 ·rintro ⟨h1,h2⟩
  exact⟨s.1,jC.2 h1,jP.2 ⟨s.2,h2,rfl⟩⟩
def Ck(OL:List (List It))(T:Nat):List (bB×Nat):=(zq OL).flatMap λs=>(List.range (T+1)).map λt=>(s,t)
theorem adB{OL:List (List It)}{T:Nat}{s:bB}{t:Nat}(hs:jq OL s)(ht:t<=T):(s,t)∈Ck OL T:=by
 unfold Ck;rw[Aa];exact⟨s,O4.2 hs,jP.2 ⟨t,jC.2 (by omega),rfl⟩⟩
def Hr(OL:List (List It))(T:Nat)(lk:bB->Nat):Nat:=((Ck OL T).filter λq=> !(lk q.1).testBit q.2).length
def kL(OL:List (List It))(T:Nat)(st:LS):Nat:=2*Hr OL T st.lk+st.O.length+st.c
section
variable{T N:Nat}{R:List Ru}{OL:List (List It)}{NL:List (List Int)}{Ls:List aV}{Nu:List Bool}{Fi:List (List Bool)}
def Ht(T:Nat)(R:List Ru)(Nu:List Bool)(Fi:List (List Bool))(NL:List (List Int))(Ls:List aV)(s:bB)(t:Nat):Prop:=t<=T/\KL T R Nu Fi NL Ls s.1 s.2 t
def OkG(T:Nat)(R:List Ru)(Nu:List Bool)(Fi:List (List Bool))(NL:List (List Int))(Ls:List aV)(OL:List (List It))(g:bB×Nat):Prop:=jq OL g.1/\∀t,g.2.testBit t=true->Ht T R Nu Fi NL Ls g.1 t
theorem VQ(A:lJ T N R OL NL Ls)(hF:∀n,(Fi.getD n []).length<=T){p:bB}(hp:jq OL p){h:Nat}(hh:∀t,h.testBit t=true->Ht T R Nu Fi NL Ls p t):∀g∈uR T R NL Nu Fi p h,OkG T R Nu Fi NL Ls OL g:=by
 intro g hg;unfold uR at hg;cases hs:(aR R p.2.1)[p.2.2]? with
 |none=>rw[hs]at hg;cases hg
 |some s=>
  rw[hs]at hg;simp only[iW]at hg;rcases hg with rfl|hg
  ·obtain⟨h1,h2⟩:=A.on hp hs
   exact⟨h2,λt ht=>⟨(hh t ht).1,uP.on (i:=p.2) (hh t ht).2 hs h1⟩⟩
  ·obtain⟨b,v⟩:=s
   cases b with
   |true=>simp at hg
   |false=>
    simp only[dO,bN]at hg;obtain⟨r,hr,rfl⟩:=jP.1 hg;unfold rG at hr;rw[sD,jC]at hr;have hr2:(R.getD r (0,[])).1=v:=by simpa using hr.2
    refine⟨A.close hp hs hr.1 hr2,λt ht=> ?_⟩;have hin:Hq T N ((aR R p.2.1).drop (p.2.2+1)):=λx hx=>A.sym _ (A.item hp).2.1 x (BK hx);obtain⟨b1,b2⟩:=VL (Nu:=Nu) hF t _ 0 hin
    have uQ:sZ Nu Fi T ((aR R p.2.1).drop (p.2.2+1)) t=true->Ht T R Nu Fi NL Ls (p.1,(r,0)) t:=λhb=>
     ⟨VP hin hb,uP.begins (i:=p.2) (by rw[<-A.rF.len];exact hp.1) (A.item hp).1 hs hr.1 hr2 (VP hin hb) hb⟩
    unfold zo qC at ht;simp only[Nat.zero_testBit,Dq]at b1;split at ht
    ·rename_i hn
     simp only[sH,b1,Bool.or_eq_true]at ht;rcases ht with ht|ht
     ·exact uQ ht
     ·exact⟨(hh t ht).1,uP.nothing (i:=p.2) (hh t ht).2 hs hr.1 hr2 (by rw[<-b2];exact hn)⟩
    ·simp only[b1]at ht
     exact uQ ht
structure AZ(T:Nat)(R:List Ru)(OL:List (List It))(NL:List (List Int))(Ls:List aV)(Nu:List Bool)(Fi:List (List Bool))(p:bB)(h:Nat)(dn:List (bB×Nat))(st:LS):Prop where
 snd:∀s t,(st.lk s).testBit t=true->jq OL s/\Ht T R Nu Fi NL Ls s t
 opn:∀s∈st.O,jq OL s
 cls:∀s,jq OL s->s≠p->s∈st.O\/∀g∈uR T R NL Nu Fi s (st.lk s),st.lk g.1|||g.2=st.lk g.1
 self:st.lk p=h\/p∈st.O
 Cm:∀g∈dn,st.lk g.1|||g.2=st.lk g.1
structure qD(T:Nat)(R:List Ru)(OL:List (List It))(NL:List (List Int))(Ls:List aV)(Nu:List Bool)(Fi:List (List Bool))(st:LS):Prop where
 snd:∀s t,(st.lk s).testBit t=true->jq OL s/\Ht T R Nu Fi NL Ls s t
 opn:∀s∈st.O,jq OL s
 cls:∀s,jq OL s->s∈st.O\/∀g∈uR T R NL Nu Fi s (st.lk s),st.lk g.1|||g.2=st.lk g.1
theorem adC{a m x:Nat}(h:a|||m=a):(a|||x)|||m=a|||x:=by
 rw[Nat.or_assoc,Nat.or_comm x m,<-Nat.or_assoc,h]
theorem AZ.give{p:bB}{h:Nat}{dn:List (bB×Nat)}{st:LS}(H:AZ T R OL NL Ls Nu Fi p h dn st){g:bB×Nat}(hg:OkG T R Nu Fi NL Ls OL g):AZ T R OL NL Ls Nu Fi p h (dn++[g]) (ig g st):=by
 unfold ig;split
 ·rename_i he
  exact⟨H.snd,H.opn,H.cls,H.self,λg' hg'=>by
   rcases iV.1 hg' with hg'|hg'
   ·exact H.Cm g' hg'
   ·simp only[gG]at hg';subst hg';exact he⟩
 ·have up:∀(a:bB) (m:Nat),st.lk a|||m=st.lk a->(if a=g.1 then st.lk g.1|||g.2 else st.lk a)|||m=(if a=g.1 then st.lk g.1|||g.2 else st.lk a):=λa m hm=>by
   by_cases ha:a=g.1
   ·subst ha;rw[au rfl];exact adC hm
   ·rw[aj ha];exact hm
  refine⟨λs t ht=> ?_,λs hs=> ?_,λs hs hne=> ?_,?_,λg' hg'=> ?_⟩
  ·simp only at ht
   by_cases e:s=g.1
   ·subst e
    simp only[bQ,sH,Bool.or_eq_true]at ht;rcases ht with ht|ht
    ·exact H.snd _ t ht
    ·exact⟨hg.1,hg.2 t ht⟩
   ·rw[aj e]at ht
    exact H.snd s t ht
  ·rcases iV.1 hs with hs|hs
   ·exact H.opn s hs
   ·simp only[gG]at hs;subst hs;exact hg.1
  ·by_cases e:s=g.1
   ·exact .inl (by subst e;simp)
   ·rcases H.cls s hs hne with h1|h1
    ·exact .inl (Dw _ h1)
    ·refine .inr λg' hg'=> ?_
     simp only[aj e]at hg';exact up g'.1 g'.2 (h1 g' hg')
  ·rcases H.self with h1|h1
   ·by_cases e:p=g.1
    ·exact .inr (by subst e;simp)
    ·exact .inl (by simp only;rw[aj e];exact h1)
   ·exact .inr (Dw _ h1)
  ·rcases iV.1 hg' with hg'|hg'
   ·exact up g'.1 g'.2 (H.Cm g' hg')
   ·simp only[gG]at hg'
    subst hg';simp only[bQ];rw[Nat.or_assoc,Nat.or_self]
theorem AZ.gives{p:bB}{h:Nat}:∀(L dn:List (bB×Nat)) (st:LS),AZ T R OL NL Ls Nu Fi p h dn st->(∀g∈L,OkG T R Nu Fi NL Ls OL g)->AZ T R OL NL Ls Nu Fi p h (dn++L) (oO L st):=by
 intro L
 induction L with
 |nil=>intro dn st H _;simpa [oO] using H
 |cons g L ih=>
  intro dn st H hL;have:=ih (dn++[g]) (ig g st) (H.give (hL g (by simp))) (λg' hg'=>hL g' (mH _ hg'));rw[mG]at this;exact this
theorem qD.look(A:lJ T N R OL NL Ls)(hF:∀n,(Fi.getD n []).length<=T){lk:bB->Nat}{O:List bB}{p:bB}{c:Nat}(H:qD T R OL NL Ls Nu Fi ⟨lk,O++[p],c⟩):qD T R OL NL Ls Nu Fi (rH T R NL Nu Fi p ⟨lk,O,c⟩):=by
 have hp:jq OL p:=H.opn p (by simp)
 have H0:AZ T R OL NL Ls Nu Fi p (lk p) [] ⟨lk,O,c⟩:=⟨H.snd,λs hs=>H.opn s (Dw _ hs),λs hs hne=>by
  rcases H.cls s hs with h1|h1
  ·rcases iV.1 h1 with h1|h1
   ·exact .inl h1
   ·simp only[gG]at h1;exact absurd h1 hne
  ·exact .inr h1,.inl rfl,λg hg=>by cases hg⟩
 have H1:=H0.gives _ _ _ (VQ A hF hp λt ht=>(H.snd p t ht).2);refine⟨H1.snd,H1.opn,λs hs=> ?_⟩;by_cases e:s=p
 ·subst e
  rcases H1.self with h1|h1
  ·refine .inr λg hg=> ?_
   have h2:(rH T R NL Nu Fi s ⟨lk,O,c⟩).lk s=lk s:=h1;rw[h2]at hg;exact H1.Cm g (by simpa using hg)
  ·exact .inl h1
 ·exact H1.cls s hs e
theorem qD.give{st:LS}(H:qD T R OL NL Ls Nu Fi st){g:bB×Nat}(hg:OkG T R Nu Fi NL Ls OL g):qD T R OL NL Ls Nu Fi (ig g st):=by
 have key:∀p,AZ T R OL NL Ls Nu Fi p (st.lk p) [] st:=λp=>⟨H.snd,H.opn,λs hs _=>H.cls s hs,.inl rfl,λg hg=>by cases hg⟩;have h1:=(key g.1).give hg;refine⟨h1.snd,h1.opn,λs hs=> ?_⟩;by_cases e:s=g.1
 ·
  unfold ig;split
  ·exact H.cls s hs
  ·exact .inl (by subst e;simp)
 ·exact h1.cls s hs e
theorem adD(OL:List (List It)):qD T R OL NL Ls Nu Fi ⟨λ_=>0,zq OL,0⟩:=
 ⟨λs t h=>by simp at h,λs hs=>O4.1 hs,λs hs=> .inl (O4.2 hs)⟩
theorem adE{g:bB×Nat}{st:LS}{s:bB}{t:Nat}(h:(st.lk s).testBit t=true):((ig g st).lk s).testBit t=true:=by
 unfold ig;split
 ·exact h
 ·simp only
  by_cases e:s=g.1
  ·subst e;rw[au rfl,sH,h];rfl
  ·rw[aj e];exact h
theorem adF{s:bB}{t:Nat}:∀(L:List (bB×Nat)) (st:LS),(st.lk s).testBit t=true->((oO L st).lk s).testBit t=true:=by
 intro L
 induction L with
 |nil=>intro st h;exact h
 |cons g L ih=>intro st h;exact ih _ (adE h)
theorem VR{g:bB×Nat}{st:LS}(hg:jq OL g.1/\∀t,g.2.testBit t=true->t<=T):kL OL T (ig g st)<=kL OL T st:=by
 unfold ig;split
 ·exact ah _
 ·rename_i hne
  obtain⟨t,ht⟩:∃t,(st.lk g.1|||g.2).testBit t≠(st.lk g.1).testBit t:=Dr λhn=>hne (Nat.eq_of_testBit_eq λt=>Dr λh=>hn ⟨t,h⟩);rw[sH]at ht;have h1:(st.lk g.1).testBit t=false:=by cases h:(st.lk g.1).testBit t<;>simp[h]at ht⊢
  have h2:g.2.testBit t=true:=by rw[h1]at ht;cases h:g.2.testBit t<;>simp[h]at ht⊢
  have hlt:Hr OL T (λs=>if s=g.1 then st.lk g.1|||g.2 else st.lk s)<Hr OL T st.lk:=by
   unfold Hr;refine(filter_lt _ _ (λq hq=> ?_) (Ck OL T)).2 ⟨(g.1,t),adB hg.1 (hg.2 t h2),?_,?_⟩
   ·by_cases e:q.1=g.1
    ·simp only[e,bQ,sH]at hq
     rw[e];cases h:(st.lk g.1).testBit q.2<;>simp[h]at hq⊢
    ·simp only[aj e]at hq;exact hq
   ·simp[h1]
   ·simp[Nat.testBit_or,h2]
  unfold kL;simp only[aS,List.length_cons,List.length_nil];omega
theorem adG:∀(L:List (bB×Nat)) (st:LS),(∀g∈L,jq OL g.1/\∀t,g.2.testBit t=true->t<=T)->kL OL T (oO L st)<=kL OL T st:=by
 intro L
 induction L with
 |nil=>intro st _;exact ah _
 |cons g L ih=>intro st h;exact aZ (ih _ λg' hg'=>h g' (mH _ hg')) (VR (h g (by simp)))
theorem adH(A:lJ T N R OL NL Ls)(hF:∀n,(Fi.getD n []).length<=T){lk:bB->Nat}{O:List bB}{p:bB}{c:Nat}(H:qD T R OL NL Ls Nu Fi ⟨lk,O++[p],c⟩):kL OL T (rH T R NL Nu Fi p ⟨lk,O,c⟩)<kL OL T ⟨lk,O++[p],c⟩:=by
 have h1:=adG (OL:=OL) (T:=T) (uR T R NL Nu Fi p (lk p)) ⟨lk,O,c⟩ λg hg=>by
  obtain⟨a,b⟩:=VQ A hF (H.opn p (by simp)) (λt ht=>(H.snd p t ht).2) g hg;exact⟨a,λt ht=>(b t ht).1⟩
 have h2:kL OL T ⟨lk,O++[p],c⟩=kL OL T ⟨lk,O,c⟩+1:=by
  unfold kL;simp only[aS,List.length_cons,List.length_nil];omega
 show kL OL T (oO (uR T R NL Nu Fi p (lk p)) ⟨lk,O,c⟩)<_;omega
theorem or_bit{a m t:Nat}(h:a|||m=a)(hm:m.testBit t=true):a.testBit t=true:=by
 rw[<-h,sH,hm,Bool.or_true]
theorem adI(A:lJ T N R OL NL Ls)(hF:∀n,(Fi.getD n []).length<=T){st:LS}(H:qD T R OL NL Ls Nu Fi st)(hO:st.O=[])(h0:(st.lk (0,(R.length,0))).testBit T=true){k:Nat}{i:It}{t:Nat}(hl:KL T R Nu Fi NL Ls k i t):jq OL (k,i)/\(st.lk (k,i)).testBit t=true:=by
 have cls:∀s,jq OL s->∀g∈uR T R NL Nu Fi s (st.lk s),st.lk g.1|||g.2=st.lk g.1:=λs hs=>by
  rcases H.cls s hs with h|h
  ·rw[hO]at h;cases h
  ·exact h
 have bits:∀{k:Nat} {i:It},jq OL (k,i)->∀(t:Nat),(qC R Nu Fi i).1.testBit t=sZ Nu Fi T ((aR R i.1).drop (i.2+1)) t/\(qC R Nu Fi i).2=Cj Nu ((aR R i.1).drop (i.2+1)):=λ{k i} hi t=>by
  have hin:Hq T N ((aR R i.1).drop (i.2+1)):=λx hx=>A.sym _ (A.item hi).2.1 x (BK hx);obtain⟨b1,b2⟩:=VL (Nu:=Nu) hF t _ 0 hin;simp only[Nat.zero_testBit,Dq]at b1;exact⟨b1,b2⟩
 have rule:∀{k:Nat} {i:It} {m:Int} {n:Nat},jq OL (k,i)->(aR R i.1)[i.2]?=some (false,m)->n<R.length->(R.getD n (0,[])).1=m->st.lk (k,(n,0))|||zo R Nu Fi i (st.lk (k,i))=st.lk (k,(n,0)):=λ{k i m n} hi h1 h2 h3=>by
  refine cls (k,i) hi ((k,(n,0)),zo R Nu Fi i (st.lk (k,i))) ?_;unfold uR;simp only;rw[h1];simp only[dO,bN];refine mH _ (jP.2 ⟨n,?_,rfl⟩);unfold rG;rw[sD,jC];exact⟨h2,by simpa using h3⟩
 induction hl with
 |start=>exact⟨A.zero,h0⟩
 |on _ h1 h2 ih=>
  rename_i k i t s n _;obtain⟨a1,a2⟩:=ih;obtain⟨o1,o2⟩:=A.on a1 h1
  have et:toN NL T k s=n:=by
   simp only at o1;rw[h2]at o1;omega
  have hg:=cls (k,i) a1 ((toN NL T k s,(i.1,i.2+1)),st.lk (k,i)) (by unfold uR;simp only;rw[h1];simp);simp only[et]at hg o2;exact⟨o2,or_bit hg a2⟩
 |begins hk hi h1 h2 h3 ht h4=>
  rename_i k i t m n;have a1:jq OL (k,i):=⟨by rw[A.rF.len];exact hk,((A.rF.lI k (by rw[A.rF.len];exact hk)).mem i).2 hi⟩;refine⟨A.close a1 h1 h2 h3,or_bit (rule a1 h1 h2 h3) ?_⟩;unfold zo;split
  ·rw[sH,(bits a1 t).1,h4];rfl
  ·rw[(bits a1 t).1,h4]
 |nothing _ h1 h2 h3 h4 ih=>
  rename_i k i t m n _;obtain⟨a1,a2⟩:=ih;refine⟨A.close a1 h1 h2 h3,or_bit (rule a1 h1 h2 h3) ?_⟩;unfold zo;rw[au (by rw[(bits a1 t).2];exact h4),sH,a2,Bool.or_true]
theorem adJ(A:lJ T N R OL NL Ls)(hF:∀n,(Fi.getD n []).length<=T){st:LS}(H:qD T R OL NL Ls Nu Fi st)(hO:st.O=[])(h0:(st.lk (0,(R.length,0))).testBit T=true)(k:Nat)(i:It)(t:Nat):(st.lk (k,i)).testBit t=true↔KL T R Nu Fi NL Ls k i t:=
 ⟨λh=>(H.snd _ t h).2.2,λh=>(adI A hF H hO h0 h).2⟩
end
end Go.Proofs.YthbifaoaiggooaaGreatDoor
