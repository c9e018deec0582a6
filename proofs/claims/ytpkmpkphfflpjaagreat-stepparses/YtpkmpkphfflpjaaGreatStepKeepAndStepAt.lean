import Derived.Test.YtpkmpkphfflpjaaGreatMathAndHeldSeq
import Derived.Test.YtpkmpkphfflpjaaGreatMem8AndDerMath
import Derived.Test.YtpkmpkphfflpjaaGreatLfpAndRef3Math
import Derived.Test.YtpkmpkphfflpjaaGreatDerdMathAndOne8Mem
namespace Go.Proofs.YtpkmpkphfflpjaaGreat
theorem Yx(l:List Sy){b c:Nat}(h:b<=c):l.take b++(l.take c).drop b++l.drop c=l:=by
 have h1:l.take b=(l.take c).take b:=by rw[List.take_take,Nat.min_eq_left h]
 rw[h1,List.take_append_drop,List.take_append_drop]
section
variable{T N:Nat}{R:List Ru}(hf:cO T N R)
include hf
omit hf in
theorem Qn(a b n:Int):jl a b (jl a b n)=n:=by
 unfold jl;split
 ·split
  ·omega
  ·simp;omega
 ·split
  ·simp;omega
  ·simp_all
omit hf in
theorem Yy{r:Ru}(h:oP r=true):∃l,r.2=(false,r.1)::l:=by
 obtain⟨L,l⟩:=r;unfold oP at h;cases l with
 |nil=>simp at h
 |cons s l=>
  obtain⟨t,n⟩:=s;simp at h;exact⟨l,by rw[h.1,h.2]⟩
theorem Qo{r:Ru}(hr:r∈R):fu N R r=true↔eH N R r.1/\lK N R r.1/\nY (eH N R) r.2:=by
 have h1:=(Gz hf).2;have h2:=(KI hf).2;have h0:=(hf.left r hr).1;have hM:(oO R N).getD r.1.toNat false=true↔eH N R r.1:=⟨fun h=>(h1 _).1 ⟨h0,h⟩,fun h=>((h1 _).2 h).2⟩;have hC:(CK R N).getD r.1.toNat false=true↔lK N R r.1:=⟨fun h=>(h2 _).1 ⟨h0,h⟩,fun h=>((h2 _).2 h).2⟩
 have hA:dR (oO R N) r.2=true↔nY (eH N R) r.2:=by
  unfold dR;rw[List.all_eq_true];constructor
  ·intro h s hs hb
   have:=h s hs;rw[hb,Bool.false_or]at this;exact(h1 _).1 ⟨(hf.name r hr s hs hb).1,this⟩
  ·intro h s hs
   cases hb:s.1 with
   |true=>rfl
   |false=>rw[Bool.false_or];exact((h1 _).2 (h s hs hb)).2
 unfold fu;rw[Bool.and_eq_true,Bool.and_eq_true,hM,hC,hA,and_assoc]
end
def aS:Fo->Nat
 | .no=>0
 | .nd _ _ ts=>aS ts+1
def kS:Nat->Fo->Fo
 |0,_=> .no
 |_+1,.no=> .no
 |i+1,.nd q ks ts=> .nd q ks (kS i ts)
def fE:Nat->Fo->Fo
 |0,t=>t
 |_+1,.no=> .no
 |i+1,.nd _ _ ts=>fE i ts
def ug:Fo->Fo
 | .no=> .no
 | .nd _ ks _=>ks
def yL:Fo->Fo
 | .no=> .no
 | .nd _ _ ts=>ts
theorem GA:∀(t u:Fo),kS (aS t) (aF t u)=t
 | .no,u=>rfl
 | .nd q ks ts,u=>by rw[aS,aF,kS,GA ts u]
theorem Ay:∀(t u:Fo),fE (aS t) (aF t u)=u
 | .no,u=>rfl
 | .nd q ks ts,u=>by rw[aS,aF,fE,Ay ts u]
theorem GD:∀(t u v:Fo),aF (aF t u) v=aF t (aF u v)
 | .no,u,v=>rfl
 | .nd q ks ts,u,v=>by rw[aF,aF,aF,GD ts u v]
theorem KJ:∀(t:Fo),aF t .no=t
 | .no=>rfl
 | .nd q ks ts=>by rw[aF,KJ ts]
theorem mR{R:List Ru}:∀(t:Fo) (ns:List Int),okF R t ns->aS t=ns.length
 | .no,ns,h=>by cases h;rfl
 | .nd q ks ts,ns,h=>by
  obtain⟨n,ns',rfl,h1,h2,h3,h4⟩:=h;rw[aS,List.length_cons,mR ts ns' h4]
def mU(i m L:Nat)(t:Fo):Fo:=aF (kS i t) (.nd L (kS m (fE i t)) (fE m (fE i t)))
def iA(i:Nat)(t:Fo):Fo:=aF (kS i t) (aF (ug (fE i t)) (yL (fE i t)))
theorem GH{i m:Nat}(L:Nat){k1 k2 k3:Fo}(h1:aS k1=i)(h2:aS k2=m):mU i m L (aF k1 (aF k2 k3))=aF k1 (.nd L k2 k3):=by
 unfold mU;rw[<-h1,<-h2,GA,Ay,GA,Ay]
theorem Dl{i L:Nat}{k1 k2 k3:Fo}(h1:aS k1=i):iA i (aF k1 (.nd L k2 k3))=aF k1 (aF k2 k3):=by
 unfold iA;rw[<-h1,GA,Ay];rfl
def fP(a L i m:Nat):Fo->Fo
 | .no=> .no
 | .nd q ks ts=> .nd q (if q=a then mU i m L (fP a L i m ks) else fP a L i m ks) (fP a L i m ts)
def dW(a i:Nat):Fo->Fo
 | .no=> .no
 | .nd q ks ts=> .nd q (if q=a then iA i (dW a i ks) else dW a i ks) (dW a i ts)
theorem KL(a L i m:Nat):∀(t u:Fo),fP a L i m (aF t u)=aF (fP a L i m t) (fP a L i m u)
 | .no,u=>rfl
 | .nd q ks ts,u=>by rw[aF,fP,fP,aF,KL a L i m ts u]
theorem Dm(a i:Nat):∀(t u:Fo),dW a i (aF t u)=aF (dW a i t) (dW a i u)
 | .no,u=>rfl
 | .nd q ks ts,u=>by rw[aF,dW,dW,aF,Dm a i ts u]
theorem Qp(a L i m:Nat):∀t:Fo,aS (fP a L i m t)=aS t
 | .no=>rfl
 | .nd q ks ts=>by rw[fP,aS,aS,Qp a L i m ts]
theorem GI(a i:Nat):∀t:Fo,aS (dW a i t)=aS t
 | .no=>rfl
 | .nd q ks ts=>by rw[dW,aS,aS,GI a i ts]
structure KM(N:Nat)(R R':List Ru)(a:Nat)(l1 l2 l3:List Sy):Prop where
 lt:a<R.length
 len:R'.length=R.length+1
 cut:(R.getD a (0,[])).2=l1++(l2++l3)
 here:R'.getD a (0,[])=((R.getD a (0,[])).1,l1++(false,(N:Int))::l3)
 last:R'.getD R.length (0,[])=((N:Int),l2)
 other:∀q,q<R.length->q≠a->R'.getD q (0,[])=R.getD q (0,[])
 low:∀r∈R,r.1<(N:Int)/\∀s∈r.2,s.1=false->s.2<(N:Int)
section
variable{N:Nat}{R R':List Ru}{a:Nat}{l1 l2 l3:List Sy}
theorem Yz(h:KM N R R' a l1 l2 l3):∀(t:Fo) (ns:List Int),okF R t ns->okF R' (fP a R.length (aB l1).length (aB l2).length t) ns/\aI R' (fP a R.length (aB l1).length (aB l2).length t)=aI R t/\dW a (aB l1).length (fP a R.length (aB l1).length (aB l2).length t)=t:=by
 intro t
 induction t with
 |no=>intro ns hn;cases hn;exact⟨rfl,rfl,rfl⟩
 |nd q ks ts ihk pW=>
  rintro ns ⟨n,ns',rfl,h1,h2,h3,h4⟩;obtain⟨b1,b2,b3⟩:=pW ns' h4;obtain⟨a1,a2,a3⟩:=ihk _ h3;have hlen:=h.len;by_cases hq:q=a
  ·subst hq
   rw[h.cut,gT,gT]at a1;obtain⟨k1,kk,e1,c1,c2⟩:=pX _ _ _ a1;obtain⟨k2,k3,rfl,c2,c3⟩:=pX _ _ _ c2
   have e2:mU (aB l1).length (aB l2).length R.length (fP q R.length (aB l1).length (aB l2).length ks)=aF k1 (.nd R.length k2 k3):=by
    rw[e1];exact GH _ (mR _ _ c1) (mR _ _ c2)
   rw[fP,if_pos rfl,e2];have hlast:okF R' (.nd R.length k2 k3) ((N:Int)::aB l3):=⟨_,_,rfl,by omega,by rw[h.last],by rw[h.last];exact c2,c3⟩;refine⟨⟨n,ns',rfl,by omega,by rw[h.here];exact h2,?_,b1⟩,?_,?_⟩
   ·rw[h.here,gT]
    exact qU _ _ _ _ c1 hlast
   ·rw[aI,aI,b2,h.here,kQ,aI,h.last]
    congr 1
    rw[h.cut,<-a2,e1,kQ,kQ];rw[nW _ _ _ _ (mQ _ _ c1),nW _ _ _ _ (mQ _ _ c1),nW _ _ _ _ (mQ _ _ c2)];rfl
   ·rw[dW,if_pos rfl,b3,Dm,dW,if_neg (by have:=h.lt;omega),Dl (by rw[GI];exact mR _ _ c1),<-Dm,<-Dm,<-e1,a3]
  ·rw[fP,if_neg hq]
   refine⟨⟨n,ns',rfl,by omega,by rw[h.other q h1 hq];exact h2,by rw[h.other q h1 hq];exact a1,b1⟩,?_,?_⟩
   ·rw[aI,aI,b2,h.other q h1 hq,a2]
   ·rw[dW,if_neg hq,a3,b3]
theorem YA(h:KM N R R' a l1 l2 l3):∀(m:Nat) (t:Fo) (ns:List Int),(ai t).length<m->(∀n∈ns,n<(N:Int))->okF R' t ns->okF R (dW a (aB l1).length t) ns/\aI R (dW a (aB l1).length t)=aI R' t/\fP a R.length (aB l1).length (aB l2).length (dW a (aB l1).length t)=t:=by
 intro m
 induction m with
 |zero=>intro t ns h;omega
 |succ m ih=>
  intro t ns hm hns hok;cases t with
  |no=>cases hok;exact⟨rfl,rfl,rfl⟩
  |nd q ks ts=>
   obtain⟨n,ns',rfl,h1,h2,h3,h4⟩:=hok;rw[ai,List.length_cons,List.length_append]at hm;have hlen:=h.len
   have hlow:∀{r:Ru} {l:List Sy},r∈R->(∀s∈l,s∈r.2)->∀x∈aB l,x<(N:Int):=fun {r} {l} hr hl x hx=>by
    have:(false,x)∈l:=by
     clear hl
     induction l with
     |nil=>cases hx
     |cons s l ihl=>
      obtain⟨b,y⟩:=s;cases b with
      |true=>exact List.mem_cons_of_mem _ (ihl hx)
      |false=>
       rcases List.mem_cons.1 hx with rfl|hx
       ·exact List.mem_cons_self ..
       ·exact List.mem_cons_of_mem _ (ihl hx)
    exact(h.low r hr).2 _ (hl _ this) rfl
   obtain⟨b1,b2,b3⟩:=ih ts ns' (by omega) (fun x hx=>hns x (List.mem_cons_of_mem _ hx)) h4
   have YB:q≠R.length:=fun e=>by
    rw[e,h.last]at h2;have:=hns n (List.mem_cons_self ..);simp only at h2;omega
   have hq':q<R.length:=by omega
   by_cases hq:q=a
   ·subst hq
    have hr:=jV (R:=R) h.lt;rw[h.here,gT]at h3;obtain⟨k1,kk,rfl,c1,c2⟩:=pX _ _ _ h3;obtain⟨q2,k2,k3,rfl,d1,d2,d3,d4⟩:=rV c2
    have hq2:q2=R.length:=by
     by_cases e:q2=R.length
     ·exact e
     ·exfalso
      by_cases e2:q2=q
      ·rw[e2,h.here]at d2
       have:=(h.low _ hr).1;simp only at d2;omega
      ·rw[h.other q2 (by omega) e2]at d2
       have:=(h.low _ (jV (R:=R) (i:=q2) (by omega))).1;omega
    subst hq2;rw[h.last]at d3;rw[kP,ai,List.length_append,List.length_cons,List.length_append]at hm;obtain⟨p1,p2,p3⟩:=ih k1 _ (by omega) (hlow (l:=l1) hr (fun s hs=>by rw[h.cut];exact List.mem_append_left _ hs)) c1;obtain⟨q1,q2,q3⟩:=ih k2 _ (by omega) (hlow (l:=l2) hr (fun s hs=>by rw[h.cut];exact List.mem_append_right _ (List.mem_append_left _ hs))) d3;obtain⟨r1,r2,r3⟩:=ih k3 _ (by omega) (hlow (l:=l3) hr (fun s hs=>by rw[h.cut];exact List.mem_append_right _ (List.mem_append_right _ hs))) d4
    have e2:iA (aB l1).length (dW q (aB l1).length (aF k1 (.nd R.length k2 k3)))=aF (dW q (aB l1).length k1) (aF (dW q (aB l1).length k2) (dW q (aB l1).length k3)):=by
     rw[Dm,dW,if_neg (by have:=h.lt;omega),Dl (by rw[GI];exact mR _ _ c1)]
    rw[dW,if_pos rfl,e2];refine⟨⟨n,ns',rfl,hq',by rw[h.here]at h2;exact h2,?_,b1⟩,?_,?_⟩
    ·rw[h.cut,gT,gT]
     exact qU _ _ _ _ p1 (qU _ _ _ _ q1 r1)
    ·rw[aI,aI,b2,h.here,h.cut,kQ,kQ,p2,q2,r2,kQ,aI,h.last]
     congr 1
     rw[nW _ _ _ _ (mQ _ _ c1),nW _ _ _ _ (mQ _ _ c1),nW _ _ _ _ (mQ _ _ d3)];rfl
    ·rw[fP,if_pos rfl,b3,KL,KL,p3,q3,r3,GH _ (mR _ _ c1) (mR _ _ d3)]
   ·have e:=h.other q hq' hq
    rw[e]at h2 h3;have hr:=jV (R:=R) hq';obtain⟨a1,a2,a3⟩:=ih ks _ (by omega) (hlow hr (fun s hs=>hs)) h3;rw[dW,if_neg hq];refine⟨⟨n,ns',rfl,hq',h2,a1,b1⟩,?_,?_⟩
    ·rw[aI,aI,b2,e,a2]
    ·rw[fP,if_neg hq,a3,b3]
end
def rX:Fo->Nat
 | .no=>0
 | .nd q _ _=>q
theorem KN{t u:Fo}{i:Nat}(h:aS t=i):fE i (aF t u)=u:=by rw[<-h,Ay]
def cB(a i:Nat)(sh aC rk:Nat->Nat):Fo->Fo
 | .no=> .no
 | .nd q ks ts=> .nd (if q=a then rk (aC (rX (fE i (cB a i sh aC rk ks)))) else sh q) (if q=a then iA i (cB a i sh aC rk ks) else cB a i sh aC rk ks) (cB a i sh aC rk ts)
def dJ(a i:Nat)(aC:Nat->Nat)(isIn:Nat->Option Nat)(m:Nat->Nat):Fo->Fo
 | .no=> .no
 | .nd q ks ts=> .nd (if (isIn q).isSome then a else aC q) (if (isIn q).isSome then mU i (m ((isIn q).getD 0)) ((isIn q).getD 0) (dJ a i aC isIn m ks) else dJ a i aC isIn m ks) (dJ a i aC isIn m ts)
theorem Az(a i:Nat)(sh aC rk:Nat->Nat):∀(t u:Fo),cB a i sh aC rk (aF t u)=aF (cB a i sh aC rk t) (cB a i sh aC rk u)
 | .no,u=>rfl
 | .nd q ks ts,u=>by rw[aF,cB,cB,aF,Az a i sh aC rk ts u]
theorem Dn(a i:Nat)(aC:Nat->Nat)(isIn:Nat->Option Nat)(m:Nat->Nat):∀(t u:Fo),dJ a i aC isIn m (aF t u)=aF (dJ a i aC isIn m t) (dJ a i aC isIn m u)
 | .no,u=>rfl
 | .nd q ks ts,u=>by rw[aF,dJ,dJ,aF,Dn a i aC isIn m ts u]
theorem KO(a i:Nat)(sh aC rk:Nat->Nat):∀t:Fo,aS (cB a i sh aC rk t)=aS t
 | .no=>rfl
 | .nd q ks ts=>by rw[cB,aS,aS,KO a i sh aC rk ts]
theorem Dp(a i:Nat)(aC:Nat->Nat)(isIn:Nat->Option Nat)(m:Nat->Nat):∀t:Fo,aS (dJ a i aC isIn m t)=aS t
 | .no=>rfl
 | .nd q ks ts=>by rw[dJ,aS,aS,Dp a i aC isIn m ts]
structure GJ(R R':List Ru)(a:Nat)(l1 l3:List Sy)(X:Int)(sh aC rk:Nat->Nat)(isIn:Nat->Option Nat)(m:Nat->Nat):Prop where
 lt:a<R.length
 cut:(R.getD a (0,[])).2=l1++(false,X)::l3
 ne:(R.getD a (0,[])).1≠X
 stays:∀q,q<R.length->q≠a->sh q<R'.length/\R'.getD (sh q) (0,[])=R.getD q (0,[])/\aC (sh q)=q/\isIn (sh q)=none
 made:∀j,j<R.length->(R.getD j (0,[])).1=X->rk j<R'.length/\R'.getD (rk j) (0,[])=((R.getD a (0,[])).1,l1++((R.getD j (0,[])).2++l3))/\isIn (rk j)=some j
 all:∀p,p<R'.length->(∃q,q<R.length/\q≠a/\p=sh q)\/∃j,j<R.length/\(R.getD j (0,[])).1=X/\p=rk j
 many:∀j,m j=(aB (R.getD j (0,[])).2).length
section
variable{R R':List Ru}{a:Nat}{l1 l3:List Sy}{X:Int}{sh aC rk:Nat->Nat}{isIn:Nat->Option Nat}{m:Nat->Nat}
theorem YC(h:GJ R R' a l1 l3 X sh aC rk isIn m):∀(z:Nat) (t:Fo) (ns:List Int),(ai t).length<z->okF R t ns->okF R' (cB a (aB l1).length sh aC rk t) ns/\aI R' (cB a (aB l1).length sh aC rk t)=aI R t/\dJ a (aB l1).length aC isIn m (cB a (aB l1).length sh aC rk t)=t:=by
 intro z
 induction z with
 |zero=>intro t ns h;omega
 |succ z ih=>
  intro t ns hz hok;cases t with
  |no=>cases hok;exact⟨rfl,rfl,rfl⟩
  |nd q ks ts=>
   obtain⟨n,ns',rfl,h1,h2,h3,h4⟩:=hok;rw[ai,List.length_cons,List.length_append]at hz;obtain⟨b1,b2,b3⟩:=ih ts ns' (by omega) h4;by_cases hq:q=a
   ·subst hq
    rw[h.cut,gT]at h3;obtain⟨k1,kk,rfl,c1,c2⟩:=pX _ _ _ h3;obtain⟨j,k2,k3,rfl,d1,d2,d3,d4⟩:=rV c2;have hj:j≠q:=fun e=>h.ne (by rw[<-e];exact d2);obtain⟨s1,s2,s3,s4⟩:=h.stays j d1 hj;obtain⟨m1,m2,m3⟩:=h.made j d1 d2;rw[kP,ai,List.length_append,List.length_cons,List.length_append]at hz;obtain⟨p1,p2,p3⟩:=ih k1 _ (by omega) c1;obtain⟨q1,q2,q3⟩:=ih k2 _ (by omega) d3;obtain⟨r1,r2,r3⟩:=ih k3 _ (by omega) d4
    have e1:cB q (aB l1).length sh aC rk (aF k1 (.nd j k2 k3))=aF (cB q (aB l1).length sh aC rk k1) (.nd (sh j) (cB q (aB l1).length sh aC rk k2) (cB q (aB l1).length sh aC rk k3)):=by
     rw[Az,cB,if_neg hj,if_neg hj]
    have hl1:aS (cB q (aB l1).length sh aC rk k1)=(aB l1).length:=by rw[KO];exact mR _ _ c1
    have e3:rX (fE (aB l1).length (cB q (aB l1).length sh aC rk (aF k1 (.nd j k2 k3))))=sh j:=by
     rw[e1,KN hl1];rfl
    rw[cB,if_pos rfl,if_pos rfl,e3,s3,e1,Dl hl1];refine⟨⟨n,ns',rfl,m1,by rw[m2];exact h2,?_,b1⟩,?_,?_⟩
    ·rw[m2,gT,gT]
     exact qU _ _ _ _ p1 (qU _ _ _ _ q1 r1)
    ·rw[aI,aI,b2,m2,h.cut,kQ,kQ,p2,q2,r2,kQ,aI]
     congr 1
     rw[nW _ _ _ _ (mQ _ _ c1),nW _ _ _ _ (mQ _ _ c1),nW _ _ _ _ (mQ _ _ d3)];rfl
    ·rw[dJ,m3,b3]
     simp only[Option.isSome_some,if_true,Option.getD_some];rw[Dn,Dn,p3,q3,r3,GH j (mR _ _ c1) (by rw[h.many];exact mR _ _ d3)]
   ·obtain⟨s1,s2,s3,s4⟩:=h.stays q h1 hq
    obtain⟨a1,a2,a3⟩:=ih ks _ (by omega) h3;rw[cB,if_neg hq,if_neg hq];refine⟨⟨n,ns',rfl,s1,by rw[s2];exact h2,by rw[s2];exact a1,b1⟩,?_,?_⟩
    ·rw[aI,aI,b2,s2,a2]
    ·rw[dJ,s4,s3,a3,b3]
     simp
theorem YD(h:GJ R R' a l1 l3 X sh aC rk isIn m):∀(z:Nat) (t:Fo) (ns:List Int),(ai t).length<z->okF R' t ns->okF R (dJ a (aB l1).length aC isIn m t) ns/\aI R (dJ a (aB l1).length aC isIn m t)=aI R' t/\cB a (aB l1).length sh aC rk (dJ a (aB l1).length aC isIn m t)=t:=by
 intro z
 induction z with
 |zero=>intro t ns h;omega
 |succ z ih=>
  intro t ns hz hok;cases t with
  |no=>cases hok;exact⟨rfl,rfl,rfl⟩
  |nd p ks ts=>
   obtain⟨n,ns',rfl,h1,h2,h3,h4⟩:=hok;rw[ai,List.length_cons,List.length_append]at hz;obtain⟨b1,b2,b3⟩:=ih ts ns' (by omega) h4;rcases h.all p h1 with⟨q,hq1,hq,rfl⟩|⟨j,d1,d2,rfl⟩
   ·obtain⟨s1,s2,s3,s4⟩:=h.stays q hq1 hq
    rw[s2]at h2 h3;obtain⟨a1,a2,a3⟩:=ih ks _ (by omega) h3
    have e:dJ a (aB l1).length aC isIn m (.nd (sh q) ks ts)= .nd q (dJ a (aB l1).length aC isIn m ks) (dJ a (aB l1).length aC isIn m ts):=by
     rw[dJ,s4,s3];simp
    rw[e];refine⟨⟨n,ns',rfl,hq1,h2,a1,b1⟩,?_,?_⟩
    ·rw[aI,aI,b2,s2,a2]
    ·rw[cB,if_neg hq,if_neg hq,a3,b3]
   ·obtain⟨m1,m2,m3⟩:=h.made j d1 d2
    have hj:j≠a:=fun e=>h.ne (by rw[<-e];exact d2);obtain⟨s1,s2,s3,s4⟩:=h.stays j d1 hj;rw[m2,gT,gT]at h3;rw[m2]at h2;obtain⟨k1,kk,rfl,c1,c2⟩:=pX _ _ _ h3;obtain⟨k2,k3,rfl,c2,c3⟩:=pX _ _ _ c2;rw[kP,kP,List.length_append,List.length_append]at hz;obtain⟨p1,p2,p3⟩:=ih k1 _ (by omega) c1;obtain⟨q1,q2,q3⟩:=ih k2 _ (by omega) c2;obtain⟨r1,r2,r3⟩:=ih k3 _ (by omega) c3;have hl1:aS (dJ a (aB l1).length aC isIn m k1)=(aB l1).length:=by rw[Dp];exact mR _ _ c1
    have hl2:aS (dJ a (aB l1).length aC isIn m k2)=m j:=by rw[Dp,h.many];exact mR _ _ c2
    have e:dJ a (aB l1).length aC isIn m (.nd (rk j) (aF k1 (aF k2 k3)) ts)= .nd a (aF (dJ a (aB l1).length aC isIn m k1) (.nd j (dJ a (aB l1).length aC isIn m k2) (dJ a (aB l1).length aC isIn m k3))) (dJ a (aB l1).length aC isIn m ts):=by
     rw[dJ,m3];simp only[Option.isSome_some,if_true,Option.getD_some];rw[Dn,Dn,GH j hl1 hl2]
    rw[e];refine⟨⟨n,ns',rfl,h.lt,h2,?_,b1⟩,?_,?_⟩
    ·rw[h.cut,gT]
     exact qU _ _ _ _ p1 ⟨_,_,rfl,d1,d2,q1,r1⟩
    ·rw[aI,aI,b2,m2,h.cut,kQ,aI,p2,q2,r2,kQ,kQ]
     congr 1
     rw[nW _ _ _ _ (mQ _ _ c1),nW _ _ _ _ (mQ _ _ c1),nW _ _ _ _ (mQ _ _ c2)];rfl
    ·have e1:cB a (aB l1).length sh aC rk (aF (dJ a (aB l1).length aC isIn m k1) (.nd j (dJ a (aB l1).length aC isIn m k2) (dJ a (aB l1).length aC isIn m k3)))=aF k1 (.nd (sh j) k2 k3):=by
      rw[Az,cB,if_neg hj,if_neg hj,p3,q3,r3]
     have hl3:aS k1=(aB l1).length:=mR _ _ c1
     have e3:rX (fE (aB l1).length (aF k1 (.nd (sh j) k2 k3)))=sh j:=by
      rw[<-hl3,Ay];rfl
     rw[cB,if_pos rfl,if_pos rfl,e1,e3,s3,Dl hl3,b3]
end
def iB(f:Nat->Nat):Fo->Fo
 | .no=> .no
 | .nd q ks ts=> .nd (f q) (iB f ks) (iB f ts)
theorem GK(f:Nat->Nat):∀t:Fo,(ai (iB f t)).length=(ai t).length
 | .no=>rfl
 | .nd q ks ts=>by rw[iB,ai,ai,List.length_cons,List.length_cons,List.length_append,List.length_append,GK f ks,GK f ts]
structure GL(R R':List Ru)(M C:Int->Prop)(sh aC:Nat->Nat):Prop where
 makes:∀q,q<R.length->(∀n∈aB (R.getD q (0,[])).2,M n)->M (R.getD q (0,[])).1
 stays:∀q,q<R.length->C (R.getD q (0,[])).1->(∀n∈aB (R.getD q (0,[])).2,M n)->sh q<R'.length/\R'.getD (sh q) (0,[])=R.getD q (0,[])/\aC (sh q)=q/\∀n∈aB (R.getD q (0,[])).2,C n
 all:∀p,p<R'.length->aC p<R.length/\R.getD (aC p) (0,[])=R'.getD p (0,[])/\sh (aC p)=p
section
variable{R R':List Ru}{M C:Int->Prop}{sh aC:Nat->Nat}
theorem GN(h:GL R R' M C sh aC):∀(t:Fo) (ns:List Int),okF R t ns->∀n∈ns,M n:=by
 intro t
 induction t with
 |no=>intro ns h n hn;cases h;cases hn
 |nd q ks ts ihk pW=>
  rintro ns ⟨n,ns',rfl,h1,h2,h3,h4⟩ x hx;rcases List.mem_cons.1 hx with rfl|hx
  ·rw[<-h2];exact h.makes q h1 (ihk _ h3)
  ·exact pW _ h4 x hx
theorem YE(h:GL R R' M C sh aC):∀(t:Fo) (ns:List Int),(∀n∈ns,C n)->okF R t ns->okF R' (iB sh t) ns/\aI R' (iB sh t)=aI R t/\iB aC (iB sh t)=t:=by
 intro t
 induction t with
 |no=>intro ns _ h;cases h;exact⟨rfl,rfl,rfl⟩
 |nd q ks ts ihk pW=>
  rintro ns hC ⟨n,ns',rfl,h1,h2,h3,h4⟩;obtain⟨s1,s2,s3,s4⟩:=h.stays q h1 (by rw[h2];exact hC n (List.mem_cons_self ..)) (GN h _ _ h3);obtain⟨a1,a2,a3⟩:=ihk _ s4 h3;obtain⟨b1,b2,b3⟩:=pW _ (fun x hx=>hC x (List.mem_cons_of_mem _ hx)) h4;rw[iB];exact⟨⟨n,ns',rfl,s1,by rw[s2];exact h2,by rw[s2];exact a1,b1⟩,by rw[aI,aI,s2,a2,b2],by rw[iB,s3,a3,b3]⟩
theorem YF(h:GL R R' M C sh aC):∀(t:Fo) (ns:List Int),okF R' t ns->okF R (iB aC t) ns/\aI R (iB aC t)=aI R' t/\iB sh (iB aC t)=t:=by
 intro t
 induction t with
 |no=>intro ns h;cases h;exact⟨rfl,rfl,rfl⟩
 |nd p ks ts ihk pW=>
  rintro ns ⟨n,ns',rfl,h1,h2,h3,h4⟩;obtain⟨s1,s2,s3⟩:=h.all p h1;obtain⟨a1,a2,a3⟩:=ihk _ h3;obtain⟨b1,b2,b3⟩:=pW _ h4;rw[iB];exact⟨⟨n,ns',rfl,s1,by rw[s2];exact h2,by rw[s2];exact a1,b1⟩,by rw[aI,aI,s2,a2,b2],by rw[iB,s3,a3,b3]⟩
end
theorem KP(f:Int->Int)(g:Sy->Sy)(hg:∀s,g s=if s.1 then s else (false,f s.2)):∀l:List Sy,aB (l.map g)=(aB l).map f
 | []=>rfl
 |(true,v)::l=>by rw[List.map_cons,hg];exact KP f g hg l
 |(false,n)::l=>by rw[List.map_cons,hg,aB,List.map_cons,<-KP f g hg l];rfl
theorem KQ(f:Int->Int)(g:Sy->Sy)(hg:∀s,g s=if s.1 then s else (false,f s.2)):∀(l:List Sy) (ys:List (List Int)),gQ (l.map g) ys=gQ l ys
 | [],ys=>rfl
 |(true,v)::l,ys=>by rw[List.map_cons,hg,gQ,<-KQ f g hg l ys];rfl
 |(false,n)::l,ys=>by rw[List.map_cons,hg,gQ,<-KQ f g hg l ys.tail];rfl
theorem Qq{R R':List Ru}(f:Int->Int)(g:Sy->Sy)(hg:∀s,g s=if s.1 then s else (false,f s.2))(hl:R'.length=R.length)(hr:∀q,q<R.length->R'.getD q (0,[])=(f (R.getD q (0,[])).1,(R.getD q (0,[])).2.map g)):∀(t:Fo) (ns:List Int),okF R t ns->okF R' t (ns.map f)/\aI R' t=aI R t:=by
 intro t
 induction t with
 |no=>intro ns h;cases h;exact⟨rfl,rfl⟩
 |nd q ks ts ihk pW=>
  rintro ns ⟨n,ns',rfl,h1,h2,h3,h4⟩;obtain⟨a1,a2⟩:=ihk _ h3;obtain⟨b1,b2⟩:=pW _ h4;rw[aI,aI,hr q h1,b2,a2];refine⟨⟨f n,ns'.map f,rfl,by omega,by rw[hr q h1,h2],?_,b1⟩,by rw[KQ f g hg]⟩;rw[hr q h1,KP f g hg];exact a1
def KS:Fo->Fo->Fo
 | .no,u=>u
 | .nd p ks _,u=> .nd p ks u
def yM:Fo->Fo
 | .no=> .no
 | .nd _ _ .no=> .no
 | .nd q ks (.nd q' ks' ts')=> .nd q ks (yM (.nd q' ks' ts'))
theorem Qr:∀(t:Fo) (q:Nat) (ks:Fo),yM (aF t (.nd q ks .no))=t
 | .no,q,ks=>rfl
 | .nd p k .no,q,ks=>rfl
 | .nd p k (.nd p' k' t'),q,ks=>by
  have:=Qr (.nd p' k' t') q ks;rw[aF]at this⊢;rw[aF,yM,this]
theorem YG(x u:Fo):KS x u=aF (KS x .no) u:=by cases x<;>rfl
def aT(L:Nat)(own aj:Nat->Bool):Fo->Fo->Fo
 | .no,_=> .no
 | .nd q ks ts,c=>
  if own q then KS (aT L own aj ks (.nd q (aF (yL (aT L own aj ks (.nd L .no .no))) c) .no)) (aT L own aj ts (.nd L .no .no))
  else if aj q then .nd q (aF (aT L own aj ks (.nd L .no .no)) c) (aT L own aj ts (.nd L .no .no))
  else .nd q (aT L own aj ks (.nd L .no .no)) (aT L own aj ts (.nd L .no .no))
def aN(L:Nat)(own aj:Nat->Bool):Fo->Fo×(Fo->Fo)
 | .no=>(.no,fun acc=>acc)
 | .nd q ks ts=>
  (if aj q&& !own q then aF ((aN L own aj ks).2 (.nd q (yM (aN L own aj ks).1) .no)) (aN L own aj ts).1 else .nd q (aN L own aj ks).1 (aN L own aj ts).1,
   if aS ts=0 then fun acc=>if q=L then acc else (aN L own aj ks).2 (.nd q (aF acc (yM (aN L own aj ks).1)) .no) else (aN L own aj ts).2)
structure mV(N:Nat)(R R':List Ru)(A:Int)(own aj:Nat->Bool):Prop where
 len:R'.length=R.length+1
 YH:A≠(N:Int)
 low:∀r∈R,r.1<(N:Int)/\∀s∈r.2,s.1=false->s.2<(N:Int)
 last:R'.getD R.length (0,[])=((N:Int),[])
 YI:aj R.length=false
 uh:∀q,q<R.length->(aj q=true↔(R.getD q (0,[])).1=A)
 qW:∀q,q<R.length->own q=true->(R.getD q (0,[])).1=A/\∃l,(R.getD q (0,[])).2=(false,A)::l/\R'.getD q (0,[])=((N:Int),l++[(false,(N:Int))])
 base:∀q,q<R.length->own q=false->(R.getD q (0,[])).1=A->R'.getD q (0,[])=(A,(R.getD q (0,[])).2++[(false,(N:Int))])
 other:∀q,q<R.length->(R.getD q (0,[])).1≠A->R'.getD q (0,[])=R.getD q (0,[])
theorem AA{R:List Ru}{t:Fo}{n:Int}(h:okF R t [n]):∃q ks,t= .nd q ks .no:=by
 obtain⟨q,ks,ts,rfl,_,_,_,h4⟩:=rV h;cases Gc h4;exact⟨q,ks,rfl⟩
theorem GQ(l:List Sy)(n:Int)(ys:List (List Int))(y:List Int)(h:ys.length=(aB l).length):gQ (l++[(false,n)]) (ys++[y])=gQ l ys++y:=by
 rw[nW _ _ _ _ h,gQ,gQ,List.headD_cons,List.append_nil]
section
variable{N:Nat}{R R':List Ru}{A:Int}{own aj:Nat->Bool}{L:Nat}
theorem yN(q:Nat)(ks ts c:Fo):aT L own aj (.nd q ks ts) c=aF (aT L own aj (.nd q ks .no) c) (aT L own aj ts (.nd L .no .no)):=by
 rw[aT,aT];split
 ·rw[YG];rfl
 ·split<;>rfl
theorem Qs:∀(t u:Fo),aT L own aj (aF t u) (.nd L .no .no)=aF (aT L own aj t (.nd L .no .no)) (aT L own aj u (.nd L .no .no))
 | .no,u=>rfl
 | .nd q ks ts,u=>by rw[aF,yN,Qs ts u,yN q ks ts,GD]
theorem GR:∀(t u:Fo),(aN L own aj (aF t u)).1=aF (aN L own aj t).1 (aN L own aj u).1
 | .no,u=>rfl
 | .nd q ks ts,u=>by
  rw[aF,aN,aN];simp only;rw[GR ts u];split
  ·rw[GD]
  ·rfl
theorem Qt:∀(t:Fo) (q:Nat) (ks:Fo),(aN L own aj (aF t (.nd q ks .no))).2=(aN L own aj (.nd q ks .no)).2
 | .no,q,ks=>rfl
 | .nd p k t,q,ks=>by
  have h0:¬aS (aF t (.nd q ks .no))=0:=by cases t<;>simp[aF,aS]
  rw[aF,aN];simp only;rw[if_neg h0,Qt t q ks]
theorem wT(q:Nat)(ks acc:Fo):(aN L own aj (.nd q ks .no)).2 acc=if q=L then acc else (aN L own aj ks).2 (.nd q (aF acc (yM (aN L own aj ks).1)) .no):=by
 rw[aN];simp only;rw[if_pos (by rfl)]
theorem wU(h:mV N R R' A own aj){c:Fo}(hc:okF R' c [(N:Int)]):∃q ks,c= .nd q ks .no/\(aj q&& !own q)=false/\((q=R.length/\ks= .no)\/(q<R.length/\own q=true)):=by
 obtain⟨q,ks,ts,rfl,h1,h2,h3,h4⟩:=rV hc;cases Gc h4;refine⟨q,ks,rfl,?_⟩;have hlen:=h.len;by_cases hq:q=R.length
 ·subst hq
  rw[h.last]at h3;exact⟨by rw[h.YI];rfl,.inl ⟨rfl,Gc h3⟩⟩
 ·have hq':q<R.length:=by omega
  have ho:own q=true:=by
   cases ho:own q with
   |true=>rfl
   |false=>
    exfalso;by_cases hA:(R.getD q (0,[])).1=A
    ·rw[h.base q hq' ho hA]at h2
     exact h.YH h2
    ·rw[h.other q hq' hA]at h2
     have:=(h.low _ (jV hq')).1;omega
  exact⟨by rw[ho];simp,.inr ⟨hq',ho⟩⟩
theorem oZ(h:mV N R R' A own aj){c X:Fo}(hc:okF R' c [(N:Int)]):yM (aN R.length own aj (aF X c)).1=(aN R.length own aj X).1/\(aN R.length own aj (aF X c)).2=(aN R.length own aj c).2:=by
 obtain⟨q,ks,rfl,hb,_⟩:=wU h hc;refine⟨?_,Qt X q ks⟩;rw[GR]
 have:(aN R.length own aj (.nd q ks .no)).1= .nd q (aN R.length own aj ks).1 .no:=by
  rw[aN];simp only;rw[if_neg (by rw[hb];simp)];rfl
 rw[this,Qr]
theorem Dq{q p:Nat}{k0 kr c:Fo}(ho:own q=true)(h0:∀c,∃p' K,aT L own aj (.nd p k0 .no) c= .nd p' K .no):aT L own aj (.nd q (.nd p k0 kr) .no) c=aT L own aj (.nd p k0 .no) (.nd q (aF (aT L own aj kr (.nd L .no .no)) c) .no):=by
 obtain⟨p1,K1,e1⟩:=h0 (.nd L .no .no);have er:yL (aT L own aj (.nd p k0 kr) (.nd L .no .no))=aT L own aj kr (.nd L .no .no):=by rw[yN,e1];rfl
 rw[aT,if_pos ho,er,yN p k0 kr];obtain⟨p2,K2,e2⟩:=h0 (.nd q (aF (aT L own aj kr (.nd L .no .no)) c) .no);rw[e2];rfl
theorem AB(h:mV N R R' A own aj):∀(z:Nat) (q:Nat) (ks:Fo) (n:Int),(ai ks).length<z->okF R (.nd q ks .no) [n]->∀c,∃p K,aT R.length own aj (.nd q ks .no) c= .nd p K .no:=by
 intro z
 induction z with
 |zero=>intro q ks n h;omega
 |succ z ih=>
  rintro q ks n hz ⟨n',ns',e,h1,h2,h3,h4⟩ c;cases ho:own q with
  |true=>
   obtain⟨hA,l,hl,_⟩:=h.qW q h1 ho;rw[hl,aB]at h3;obtain⟨p,k0,kr,rfl,d1,d2,d3,d4⟩:=rV h3;rw[ai,List.length_cons,List.length_append]at hz;have hs:=ih p k0 A (by omega) ⟨A,[],rfl,d1,d2,d3,rfl⟩;rw[Dq ho hs];exact hs _
  |false=>
   rw[aT,if_neg (by rw[ho];simp)];split
   ·exact⟨_,_,rfl⟩
   ·exact⟨_,_,rfl⟩
theorem YJ(h:mV N R R' A own aj):∀z:Nat,
 (∀(t:Fo) (ns:List Int),(ai t).length<z->okF R t ns->okF R' (aT R.length own aj t (.nd R.length .no .no)) ns/\aI R' (aT R.length own aj t (.nd R.length .no .no))=aI R t/\(aN R.length own aj (aT R.length own aj t (.nd R.length .no .no))).1=t)/\
 (∀(q:Nat) (ks:Fo),(ai ks).length+1<z->okF R (.nd q ks .no) [A]->∀(c:Fo) (y yc:List Int),aI R (.nd q ks .no)=[y]->okF R' c [(N:Int)]->aI R' c=[yc]->okF R' (aT R.length own aj (.nd q ks .no) c) [A]/\aI R' (aT R.length own aj (.nd q ks .no) c)=[y++yc]/\(aN R.length own aj (aT R.length own aj (.nd q ks .no) c)).1=(aN R.length own aj c).2 (.nd q ks .no)):=by
 have hlen:=h.len;have hE:okF R' (.nd R.length .no .no) [(N:Int)]:=⟨_,_,rfl,by omega,by rw[h.last],by rw[h.last];rfl,rfl⟩;have yE:aI R' (.nd R.length .no .no)=[[]]:=by rw[aI,h.last];rfl
 intro z
 induction z with
 |zero=>exact⟨fun t ns h=>by omega,fun q ks h=>by omega⟩
 |succ z ih=>
  have tree:∀(q:Nat) (ks:Fo),(ai ks).length<z->okF R (.nd q ks .no) [A]->∀(c:Fo) (y yc:List Int),aI R (.nd q ks .no)=[y]->okF R' c [(N:Int)]->aI R' c=[yc]->okF R' (aT R.length own aj (.nd q ks .no) c) [A]/\aI R' (aT R.length own aj (.nd q ks .no) c)=[y++yc]/\(aN R.length own aj (aT R.length own aj (.nd q ks .no) c)).1=(aN R.length own aj c).2 (.nd q ks .no):=by
   intro q ks hz hok c y yc hy hc gq;have Dr:=AB h _ q ks A (Nat.lt_succ_self _) hok;obtain⟨n',ns',e,h1,h2,h3,h4⟩:=hok;injection e with e1 e2;subst e1;cases ho:own q with
   |true=>
    obtain⟨hA,l,hl,hR'⟩:=h.qW q h1 ho;have h3':=h3;rw[hl,aB]at h3;obtain⟨p,k0,kr,rfl,d1,d2,d3,d4⟩:=rV h3;rw[ai,List.length_cons,List.length_append]at hz;have hk0:okF R (.nd p k0 .no) [A]:=⟨A,[],rfl,d1,d2,d3,rfl⟩;obtain⟨r1,r2,r3⟩:=ih.1 kr _ (by omega) d4;rw[Dq ho (AB h _ p k0 A (Nat.lt_succ_self _) hk0)];have hc':okF R' (.nd q (aF (aT R.length own aj kr (.nd R.length .no .no)) c) .no) [(N:Int)]:=⟨_,_,rfl,by omega,by rw[hR'],by rw[hR',gT];exact qU _ _ _ _ r1 hc,rfl⟩
    have YK:aI R' (.nd q (aF (aT R.length own aj kr (.nd R.length .no .no)) c) .no)=[gQ l (aI R kr)++yc]:=by
     rw[aI,hR',kQ,gq,r2,aI,GQ _ _ _ _ (mQ _ _ d4)]
    obtain⟨t1,t2,t3⟩:=ih.2 p k0 (by omega) hk0 _ _ _ (by rw[aI,aI]) hc' YK;refine⟨t1,?_,?_⟩
    ·rw[t2]
     rw[aI,aI,aI,hl,gQ,List.headD_cons,List.tail_cons]at hy;injection hy with hy;rw[<-hy,List.append_assoc]
    ·rw[t3,wT,if_neg (by omega),(oZ h hc).1,(oZ h hc).2,r3]
     rfl
   |false=>
    have hb:=h.base q h1 ho h2;obtain⟨r1,r2,r3⟩:=ih.1 ks _ (by omega) h3;have hA:aj q=true:=(h.uh q h1).2 h2
    have e1:aT R.length own aj (.nd q ks .no) c= .nd q (aF (aT R.length own aj ks (.nd R.length .no .no)) c) .no:=by
     rw[aT,if_neg (by rw[ho];simp),if_pos hA,aT]
    rw[e1];refine⟨⟨_,_,rfl,by omega,by rw[hb],by rw[hb,gT];exact qU _ _ _ _ r1 hc,rfl⟩,?_,?_⟩
    ·rw[aI,hb,kQ,gq,r2,aI,GQ _ _ _ _ (mQ _ _ h3)]
     rw[aI,aI]at hy;injection hy with hy;rw[hy]
    ·rw[aN]
     simp only;rw[if_pos (by rw[hA,ho];rfl),(oZ h hc).1,(oZ h hc).2,r3,aN,KJ]
  refine⟨fun t ns hz hok=> ?_,fun q ks hz=>tree q ks (by omega)⟩;cases t with
  |no=>cases hok;exact⟨rfl,rfl,rfl⟩
  |nd q ks ts=>
   obtain⟨n,ns',rfl,h1,h2,h3,h4⟩:=hok;rw[ai,List.length_cons,List.length_append]at hz;obtain⟨b1,b2,b3⟩:=ih.1 ts ns' (by omega) h4;by_cases hA:n=A
   ·subst hA
    obtain⟨t1,t2,t3⟩:=tree q ks (by omega) ⟨_,_,rfl,h1,h2,h3,rfl⟩ _ _ _ (by rw[aI,aI]) hE yE;rw[yN];refine⟨qU _ _ _ _ t1 b1,?_,?_⟩
    ·rw[kQ,t2,b2,List.append_nil,aI];rfl
    ·rw[GR,t3,b3,wT,if_pos rfl];rfl
   ·have vD:(R.getD q (0,[])).1≠A:=by rw[h2];exact hA
    have ho:own q=false:=by
     cases ho:own q with
     |false=>rfl
     |true=>exact absurd (h.qW q h1 ho).1 vD
    have jH:aj q=false:=by
     cases hi:aj q with
     |false=>rfl
     |true=>exact absurd ((h.uh q h1).1 hi) vD
    have hR':=h.other q h1 vD;obtain⟨r1,r2,r3⟩:=ih.1 ks _ (by omega) h3;rw[aT,if_neg (by rw[ho];simp),if_neg (by rw[jH];simp)];refine⟨⟨n,ns',rfl,by omega,by rw[hR'];exact h2,by rw[hR'];exact r1,b1⟩,?_,?_⟩
    ·rw[aI,aI,hR',r2,b2]
    ·rw[aN]
     simp only;rw[if_neg (by rw[jH];simp),r3,b3]
theorem YL(h:mV N R R' A own aj):∀z:Nat,
 (∀(t:Fo) (ns:List Int),(ai t).length<z->(∀n∈ns,n<(N:Int))->okF R' t ns->okF R (aN R.length own aj t).1 ns/\aI R (aN R.length own aj t).1=aI R' t/\aT R.length own aj (aN R.length own aj t).1 (.nd R.length .no .no)=t)/\
 (∀c:Fo,(ai c).length<z->okF R' c [(N:Int)]->∀(acc:Fo) (y yc:List Int),okF R acc [A]->aI R acc=[y]->aI R' c=[yc]->okF R ((aN R.length own aj c).2 acc) [A]/\aI R ((aN R.length own aj c).2 acc)=[y++yc]/\aT R.length own aj ((aN R.length own aj c).2 acc) (.nd R.length .no .no)=aT R.length own aj acc c):=by
 have hlen:=h.len
 have KT:∀{r:Ru} {l:List Sy},r∈R->(∀s∈l,s∈r.2)->∀x∈aB l,x<(N:Int):=fun {r} {l} hr hl x hx=>by
  have:(false,x)∈l:=by
   clear hl
   induction l with
   |nil=>cases hx
   |cons s l ihl=>
    obtain⟨b,y⟩:=s;cases b with
    |true=>exact List.mem_cons_of_mem _ (ihl hx)
    |false=>
     rcases List.mem_cons.1 hx with rfl|hx
     ·exact List.mem_cons_self ..
     ·exact List.mem_cons_of_mem _ (ihl hx)
  exact(h.low r hr).2 _ (hl _ this) rfl
 intro z
 induction z with
 |zero=>exact⟨fun t ns h=>by omega,fun c h=>by omega⟩
 |succ z ih=>
  constructor
  ·intro t ns hz hns hok
   cases t with
   |no=>cases hok;exact⟨rfl,rfl,rfl⟩
   |nd p ks ts=>
    obtain⟨n,ns',rfl,h1,h2,h3,h4⟩:=hok;rw[ai,List.length_cons,List.length_append]at hz;obtain⟨b1,b2,b3⟩:=ih.1 ts ns' (by omega) (fun x hx=>hns x (List.mem_cons_of_mem _ hx)) h4;have hn:=hns n (List.mem_cons_self ..)
    have hpL:p≠R.length:=fun e=>by
     rw[e,h.last]at h2;simp only at h2;omega
    have hp:p<R.length:=by omega
    have hr:=jV (R:=R) hp
    have ho:own p=false:=by
     cases ho:own p with
     |false=>rfl
     |true=>
      obtain⟨_,l,_,hR'⟩:=h.qW p hp ho;rw[hR']at h2;simp only at h2;omega
    by_cases hA:(R.getD p (0,[])).1=A
    ·have hb:=h.base p hp ho hA
     have jH:aj p=true:=(h.uh p hp).2 hA;rw[hb]at h2 h3;simp only at h2;subst h2;rw[gT]at h3;obtain⟨X,c,rfl,c1,c2⟩:=pX _ _ _ h3;rw[kP,List.length_append]at hz;obtain⟨x1,x2,x3⟩:=ih.1 X _ (by omega) (KT hr fun s hs=>hs) c1;have hacc:okF R (.nd p (aN R.length own aj X).1 .no) [A]:=⟨_,_,rfl,hp,hA,x1,rfl⟩;obtain⟨qc,kc,rfl,_⟩:=wU h c2;obtain⟨u1,u2,u3⟩:=ih.2 _ (by omega) c2 _ _ _ hacc (by rw[aI,aI]) (by rw[aI,aI])
     have e1:(aN R.length own aj (.nd p (aF X (.nd qc kc .no)) ts)).1=aF ((aN R.length own aj (.nd qc kc .no)).2 (.nd p (aN R.length own aj X).1 .no)) (aN R.length own aj ts).1:=by
      rw[aN];simp only;rw[if_pos (by rw[jH,ho];rfl),(oZ h c2).1,(oZ h c2).2]
     rw[e1];refine⟨qU _ _ _ _ u1 b1,?_,?_⟩
     ·rw[kQ,u2,b2,aI,hb,kQ,x2]
      rw[aI,aI,GQ _ _ _ _ (mQ _ _ c1)];rfl
     ·rw[Qs,u3,b3,aT,if_neg (by rw[ho];simp),if_pos jH,x3,aT]
      rfl
    ·have hR':=h.other p hp hA
     have jH:aj p=false:=by
      cases hi:aj p with
      |false=>rfl
      |true=>exact absurd ((h.uh p hp).1 hi) hA
     rw[hR']at h2 h3;obtain⟨a1,a2,a3⟩:=ih.1 ks _ (by omega) (KT hr fun s hs=>hs) h3
     have e1:(aN R.length own aj (.nd p ks ts)).1= .nd p (aN R.length own aj ks).1 (aN R.length own aj ts).1:=by
      rw[aN];simp only;rw[if_neg (by rw[jH];simp)]
     rw[e1];refine⟨⟨n,ns',rfl,hp,h2,a1,b1⟩,?_,?_⟩
     ·rw[aI,aI,hR',a2,b2]
     ·rw[aT,if_neg (by rw[ho];simp),if_neg (by rw[jH];simp),a3,b3]
  ·intro c hz hc acc y yc hacc hy gq
   obtain⟨q,ks,rfl,_,⟨rfl,rfl⟩|⟨hq,ho⟩⟩:=wU h hc
   ·rw[wT,if_pos rfl]
    rw[aI,h.last]at gq;injection gq with gq;have gq:yc=[]:=gq.symm;rw[gq,List.append_nil];exact⟨hacc,hy,rfl⟩
   ·obtain⟨hA,l,hl,hR'⟩:=h.qW q hq ho
    have hr:=jV (R:=R) hq;obtain⟨n',ns',e,h1,h2,h3,h4⟩:=hc;rw[hR',gT]at h3;obtain⟨X,c1,rfl,x,hc1⟩:=pX _ _ _ h3;rw[ai,kP,List.length_cons,List.length_append,List.length_append]at hz;obtain⟨x1,x2,x3⟩:=ih.1 X _ (by omega) (KT hr fun s hs=>by rw[hl];exact List.mem_cons_of_mem _ hs) x;obtain⟨qc,kc,rfl,_⟩:=wU h hc1;rw[wT,if_neg (by omega),(oZ h hc1).1,(oZ h hc1).2];obtain⟨pa,ka,rfl⟩:=AA hacc;have hacc':okF R (.nd q (aF (.nd pa ka .no) (aN R.length own aj X).1) .no) [A]:=⟨_,_,rfl,hq,hA,by rw[hl,aB];exact qU _ _ [A] _ hacc x1,rfl⟩
    have hy':aI R (.nd q (aF (.nd pa ka .no) (aN R.length own aj X).1) .no)=[y++gQ l (aI R' X)]:=by
     rw[aI,kQ,hy,x2,hl,aI];rfl
    obtain⟨u1,u2,u3⟩:=ih.2 _ (by omega) hc1 _ _ _ hacc' hy' (by rw[aI,aI]);refine⟨u1,?_,?_⟩
    ·rw[u2]
     rw[aI,hR',kQ,aI,aI,aI,GQ _ _ _ _ (mQ _ _ x)]at gq;injection gq with gq;rw[<-gq,List.append_assoc]
    ·rw[u3]
     have Dr:=AB h _ pa ka A (Nat.lt_succ_self _) hacc;have:=Dq (kr:=(aN R.length own aj X).1) (c:= .nd qc kc .no) ho Dr;rw[x3]at this;exact this
end
section
variable{T N:Nat}{R:List Ru}{s:Stp}
theorem GU{f:Nat->List Ru}{h:Nat->Ru}(he:∀k,f k=[h k]):∀L:List Nat,L.flatMap f=L.map h
 | []=>rfl
 |k::L=>by rw[List.flatMap_cons,he,List.map_cons,GU he L];rfl
theorem AJ{h:Nat->Ru}(he:∀k,mP N R s k=[h k]):aM N R s=(List.range R.length).map h++jU N R s:=by
 unfold aM;rw[GU he]
theorem KU{h:Nat->Ru}(he:∀k,mP N R s k=[h k]):(aM N R s).length=R.length+(jU N R s).length:=by
 rw[AJ he,List.length_append,List.length_map,List.length_range]
theorem AL{h:Nat->Ru}(he:∀k,mP N R s k=[h k]){q:Nat}(hq:q<R.length):(aM N R s).getD q (0,[])=h q:=by
 rw[AJ he,List.getD,List.getElem?_append_left (by rw[List.length_map,List.length_range];exact hq),List.getElem?_map,List.getElem?_range hq];rfl
theorem Qu{h:Nat->Ru}(he:∀k,mP N R s k=[h k]){x:Ru}(hl:jU N R s=[x]):(aM N R s).getD R.length (0,[])=x:=by
 rw[AJ he,hl,List.getD,List.getElem?_append_right (by rw[List.length_map,List.length_range];exact Nat.le_refl _),List.length_map,List.length_range,Nat.sub_self];rfl
theorem KV{a b c:Int}:(aM N R ⟨1,a,b,c⟩).length=R.length/\∀q,q<R.length->(aM N R ⟨1,a,b,c⟩).getD q (0,[])=(jl a b (R.getD q (0,[])).1,(R.getD q (0,[])).2.map (nH a b)):=by
 have he:∀k,mP N R ⟨1,a,b,c⟩ k=[(jl a b (R.getD k (0,[])).1,(R.getD k (0,[])).2.map (nH a b))]:=fun k=>by
  unfold mP;simp only;rw[if_pos trivial]
 have hl:jU N R ⟨1,a,b,c⟩=[]:=by unfold jU;simp only;rw[if_neg (by decide),if_neg (by decide)]
 refine⟨by rw[KU he,hl];rfl,fun q hq=>AL he hq⟩
theorem Qv(a b:Int)(x:Sy):nH a b x=if x.1 then x else (false,jl a b x.2):=by
 unfold nH;cases x.1<;>rfl
theorem GV(hf:cO T N R){a b c:Int}(hs:aR N R ⟨2,a,b,c⟩=true):KM N R (aM N R ⟨2,a,b,c⟩) a.toNat ((R.getD a.toNat (0,[])).2.take b.toNat) (((R.getD a.toNat (0,[])).2.take c.toNat).drop b.toNat) ((R.getD a.toNat (0,[])).2.drop c.toNat):=by
 have hst:0<=a/\a<(R.length:Int)/\0<=b/\b<c/\c<=((R.getD a.toNat (0,[])).2.length:Int):=by
  unfold aR at hs;simp only at hs;rw[if_neg (by decide),if_pos trivial]at hs;simp only[Bool.and_eq_true,decide_eq_true_eq]at hs;omega
 have he:∀k,mP N R ⟨2,a,b,c⟩ k=[if k=a.toNat then ((R.getD a.toNat (0,[])).1,(R.getD a.toNat (0,[])).2.take b.toNat++(false,(N:Int))::(R.getD a.toNat (0,[])).2.drop c.toNat) else R.getD k (0,[])]:=fun k=>by
  unfold mP;simp only;rw[if_neg (by decide),if_pos trivial];by_cases hk:k=a.toNat
  ·rw[if_pos (by omega),if_pos hk,hk]
  ·rw[if_neg (by omega),if_neg hk]
 have hl:jU N R ⟨2,a,b,c⟩=[((N:Int),((R.getD a.toNat (0,[])).2.take c.toNat).drop b.toNat)]:=by unfold jU;simp only;rw[if_pos trivial]
 have ha:a.toNat<R.length:=by omega
 refine⟨ha,by rw[KU he,hl];rfl,?_,?_,Qu he hl,fun q hq eF=> ?_,fun r hr=>⟨(hf.left r hr).2,fun x hx hb=>(hf.name r hr x hx hb).2⟩⟩
 ·rw[<-List.append_assoc];exact(Yx _ (by omega)).symm
 ·rw[AL he ha,if_pos rfl]
 ·rw[AL he hq,if_neg eF]
theorem AO(hf:cO T N R){a b c:Int}(hs:aR N R ⟨4,a,b,c⟩=true):mV N R (aM N R ⟨4,a,b,c⟩) a (fun q=>decide (q<R.length)&&gM a (R.getD q (0,[]))) (fun q=>decide (q<R.length)&&decide ((R.getD q (0,[])).1=a)):=by
 have YM:a≠(N:Int):=by
  unfold aR at hs;simp only at hs;rw[if_neg (by decide),if_neg (by decide),if_neg (by decide),if_pos trivial]at hs;simp only[Bool.and_eq_true,decide_eq_true_eq,oQ,List.any_eq_true,gM]at hs;obtain⟨_,⟨r,hr,h1,_⟩,_⟩:=hs;have:=(hf.left r hr).2;omega
 have hl:jU N R ⟨4,a,b,c⟩=[((N:Int),[])]:=by unfold jU;simp only;rw[if_neg (by decide),if_pos trivial]
 have he:∀k,mP N R ⟨4,a,b,c⟩ k=[if (R.getD k (0,[])).1=a then (if oP (R.getD k (0,[])) then ((N:Int),(R.getD k (0,[])).2.drop 1++[(false,(N:Int))]) else ((R.getD k (0,[])).1,(R.getD k (0,[])).2++[(false,(N:Int))])) else R.getD k (0,[])]:=fun k=>by
  unfold mP;simp only;rw[if_neg (by decide),if_neg (by decide),if_neg (by decide),if_pos trivial]
 refine⟨by rw[KU he,hl];rfl,YM,fun r hr=>⟨(hf.left r hr).2,fun x hx hb=>(hf.name r hr x hx hb).2⟩,Qu he hl,by simp,fun q hq=>by simp[hq],fun q hq ho=> ?_,fun q hq ho hA=> ?_,fun q hq hA=> ?_⟩
 ·simp only[gM,Bool.and_eq_true,decide_eq_true_eq]at ho
  obtain⟨_,hA,ho⟩:=ho;obtain⟨l,hl⟩:=Yy ho;refine⟨hA,l,by rw[hl,hA],?_⟩;rw[AL he hq,if_pos hA,if_pos ho,hl];rfl
 ·have ho':oP (R.getD q (0,[]))=false:=by
   cases hx:oP (R.getD q (0,[])) with
   |false=>rfl
   |true=>
    have:(decide (q<R.length)&&gM a (R.getD q (0,[])))=true:=by unfold gM;rw[hx];simp only[hq,hA,decide_true,Bool.and_true]
    rw[this]at ho;cases ho
  rw[AL he hq,if_pos hA,if_neg (by rw[ho'];simp),hA]
 ·rw[AL he hq,if_neg hA]
end
theorem GX:∀(i:Nat) (t:Fo),(ai (kS i t)).length+(ai (fE i t)).length=(ai t).length
 |0,t=>by rw[kS,fE,ai];simp
 |i+1,.no=>rfl
 |i+1,.nd q ks ts=>by
  have:=GX i ts;rw[kS,fE,ai,ai,List.length_cons,List.length_cons,List.length_append,List.length_append];omega
theorem Qw(i m L:Nat)(t:Fo):(ai (mU i m L t)).length=(ai t).length+1:=by
 have h1:=GX i t;have h2:=GX m (fE i t);unfold mU;rw[kP,List.length_append,ai,List.length_cons,List.length_append];omega
theorem Qx(i:Nat)(t:Fo):(ai (iA i t)).length<=(ai t).length:=by
 have h1:=GX i t
 have h2:(ai (ug (fE i t))).length+(ai (yL (fE i t))).length<=(ai (fE i t)).length:=by
  cases fE i t with
  |no=>exact Nat.le_refl _
  |nd q ks ts=>
   rw[ug,yL,ai,List.length_cons,List.length_append];omega
 unfold iA;rw[kP,kP,List.length_append,List.length_append];omega
theorem KW(a L i m:Nat):∀t:Fo,(ai (fP a L i m t)).length<=2*(ai t).length
 | .no=>Nat.le_refl _
 | .nd q ks ts=>by
  have h1:=KW a L i m ks;have h2:=KW a L i m ts;rw[fP,ai,ai,List.length_cons,List.length_cons,List.length_append,List.length_append];split
  ·rw[Qw];omega
  ·omega
theorem GY(a i:Nat):∀t:Fo,(ai (dW a i t)).length<=(ai t).length
 | .no=>Nat.le_refl _
 | .nd q ks ts=>by
  have h1:=GY a i ks;have h2:=GY a i ts;have h3:=Qx i (dW a i ks);rw[dW,ai,ai,List.length_cons,List.length_cons,List.length_append,List.length_append];split<;>omega
theorem KX(a i:Nat)(sh aC rk:Nat->Nat):∀t:Fo,(ai (cB a i sh aC rk t)).length<=(ai t).length
 | .no=>Nat.le_refl _
 | .nd q ks ts=>by
  have h1:=KX a i sh aC rk ks;have h2:=KX a i sh aC rk ts;have h3:=Qx i (cB a i sh aC rk ks);rw[cB,ai,ai,List.length_cons,List.length_cons,List.length_append,List.length_append];split<;>omega
theorem KY(a i:Nat)(aC:Nat->Nat)(isIn:Nat->Option Nat)(m:Nat->Nat):∀t:Fo,(ai (dJ a i aC isIn m t)).length<=2*(ai t).length
 | .no=>Nat.le_refl _
 | .nd q ks ts=>by
  have h1:=KY a i aC isIn m ks;have h2:=KY a i aC isIn m ts;rw[dJ,ai,ai,List.length_cons,List.length_cons,List.length_append,List.length_append];split
  ·rw[Qw];omega
  ·omega
section
variable{N:Nat}{R R':List Ru}{A:Int}{own aj:Nat->Bool}
theorem Qy(h:mV N R R' A own aj):∀z:Nat,
 (∀(t:Fo) (ns:List Int),(ai t).length<z->okF R t ns->(ai t).length<=(ai (aT R.length own aj t (.nd R.length .no .no))).length/\(ai (aT R.length own aj t (.nd R.length .no .no))).length<=2*(ai t).length)/\
 (∀(q:Nat) (ks:Fo),(ai ks).length+1<z->okF R (.nd q ks .no) [A]->∀c:Fo,(ai ks).length+1+(ai c).length<=(ai (aT R.length own aj (.nd q ks .no) c)).length/\(ai (aT R.length own aj (.nd q ks .no) c)).length<=2*(ai ks).length+1+(ai c).length):=by
 intro z
 induction z with
 |zero=>exact⟨fun t ns h=>by omega,fun q ks h=>by omega⟩
 |succ z ih=>
  have tree:∀(q:Nat) (ks:Fo),(ai ks).length<z->okF R (.nd q ks .no) [A]->∀c:Fo,(ai ks).length+1+(ai c).length<=(ai (aT R.length own aj (.nd q ks .no) c)).length/\(ai (aT R.length own aj (.nd q ks .no) c)).length<=2*(ai ks).length+1+(ai c).length:=by
   intro q ks hz hok c;obtain⟨n',ns',e,h1,h2,h3,h4⟩:=hok;injection e with e1 e2;subst e1;cases ho:own q with
   |true=>
    obtain⟨hA,l,hl,hR'⟩:=h.qW q h1 ho;rw[hl,aB]at h3;obtain⟨p,k0,kr,rfl,d1,d2,d3,d4⟩:=rV h3;rw[ai,List.length_cons,List.length_append]at hz;have hk0:okF R (.nd p k0 .no) [A]:=⟨A,[],rfl,d1,d2,d3,rfl⟩;obtain⟨r1,r2⟩:=ih.1 kr _ (by omega) d4;obtain⟨t1,t2⟩:=ih.2 p k0 (by omega) hk0 (.nd q (aF (aT R.length own aj kr (.nd R.length .no .no)) c) .no);rw[Dq ho (AB h _ p k0 A (Nat.lt_succ_self _) hk0)];rw[ai,ai,List.append_nil,List.length_cons,kP,List.length_append]at t1 t2;rw[ai,List.length_cons,List.length_append];omega
   |false=>
    obtain⟨r1,r2⟩:=ih.1 ks _ (by omega) h3;have hA:aj q=true:=(h.uh q h1).2 h2
    have e1:aT R.length own aj (.nd q ks .no) c= .nd q (aF (aT R.length own aj ks (.nd R.length .no .no)) c) .no:=by
     rw[aT,if_neg (by rw[ho];simp),if_pos hA,aT]
    rw[e1,ai,ai,List.append_nil,List.length_cons,kP,List.length_append];omega
  refine⟨fun t ns hz hok=> ?_,fun q ks hz=>tree q ks (by omega)⟩;cases t with
  |no=>exact⟨Nat.le_refl _,Nat.le_refl _⟩
  |nd q ks ts=>
   obtain⟨n,ns',rfl,h1,h2,h3,h4⟩:=hok;rw[ai,List.length_cons,List.length_append]at hz⊢;obtain⟨b1,b2⟩:=ih.1 ts ns' (by omega) h4;by_cases hA:n=A
   ·subst hA
    obtain⟨t1,t2⟩:=tree q ks (by omega) ⟨_,_,rfl,h1,h2,h3,rfl⟩ (.nd R.length .no .no);have e1:(ai (.nd R.length .no .no)).length=1:=rfl;rw[yN,kP,List.length_append];omega
   ·have vD:(R.getD q (0,[])).1≠A:=by rw[h2];exact hA
    have ho:own q=false:=by
     cases ho:own q with
     |false=>rfl
     |true=>exact absurd (h.qW q h1 ho).1 vD
    have jH:aj q=false:=by
     cases hi:aj q with
     |false=>rfl
     |true=>exact absurd ((h.uh q h1).1 hi) vD
    obtain⟨r1,r2⟩:=ih.1 ks _ (by omega) h3;rw[aT,if_neg (by rw[ho];simp),if_neg (by rw[jH];simp),ai,List.length_cons,List.length_append];omega
end
end Go.Proofs.YtpkmpkphfflpjaaGreat
