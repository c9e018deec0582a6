import Derived.Test.YtpkmpkphfflpjaaGreatLfpAndRef3Math
import Derived.Test.YtpkmpkphfflpjaaGreatStOfSAndGrowPut
import Derived.Test.YtpkmpkphfflpjaaGreatMathAndHeldSeq
set_option maxHeartbeats 1600000
set_option maxRecDepth 100000
namespace Go.Proofs.YtpkmpkphfflpjaaGreat
section
variable{ι:Type}
def mE(dom:ι->Option Nat)(X:ι->List Bool):Prop:=∀i n,dom i=some n->(X i).length=n
structure lT(gr:ι)(dom:ι->Option Nat)(X Y:ι->List Bool):Prop where
 eG:mE dom Y
 up:∀i m,bit X i m=true->bit Y i m=true
 still:bit Y gr 0=false->Y=X
 grew:bit X gr 0=false->bit Y gr 0=true->∃i m n,i≠gr/\dom i=some n/\m<n/\bit X i m=false/\bit Y i m=true
def pE(dom:ι->Option Nat)(Z:ι->Nat->Prop)(X:ι->List Bool):Prop:=∀i n m,dom i=some n->m<n->bit X i m=true->Z i m
variable{gr:ι}{dom:ι->Option Nat}{Z:ι->Nat->Prop}
theorem lT.refl{X:ι->List Bool}(h:mE dom X):lT gr dom X X:=⟨h,fun _ _ h=>h,fun _=>rfl,fun h1 h2=>by rw[h1]at h2;cases h2⟩
theorem lT.trans{X Y W:ι->List Bool}(h:lT gr dom X Y)(k:lT gr dom Y W):lT gr dom X W:=
 ⟨k.eG,fun i m hm=>k.up i m (h.up i m hm),fun hz=>by
   have e:=k.still hz;rw[e]at hz⊢;exact h.still hz,fun h1 h2=>by
   cases hy:bit Y gr 0 with
   |true=>
    obtain⟨i,m,n,a1,a2,a3,a4,a5⟩:=h.grew h1 hy;exact⟨i,m,n,a1,a2,a3,a4,k.up i m a5⟩
   |false=>
    obtain⟨i,m,n,a1,a2,a3,a4,a5⟩:=k.grew hy h2;rw[h.still hy]at a4
    exact⟨i,m,n,a1,a2,a3,a4,a5⟩⟩
variable[DecidableEq ι]
theorem Sw(hgr:dom gr=some 1){X:ι->List Bool}{i:ι}{n m:Nat}(h:mE dom X)(hd:dom i=some n)(hm:m<n)(hi:i≠gr):lT gr dom X (iN gr X i m)/\bit (iN gr X i m) i m=true:=by
 have hl:=h i n hd;have hg:=h gr 1 hgr;cases hb:bit X i m with
 |true=>
  have e:iN gr X i m=X:=by simp[iN,hb]
  rw[e];exact⟨lT.refl h,hb⟩
 |false=>
  have e:iN gr X i m=bH (bH X i m true) gr 0 true:=by simp[iN,hb]
  rw[e];have hg':0<(bH X i m true gr).length:=by rw[rU];omega
  refine⟨⟨fun j k hj=> ?_,fun j q hq=> ?_,fun hz=> ?_,fun _ _=> ?_⟩,?_⟩
  ·rw[rU,rU];exact h j k hj
  ·rw[iW hg',iW (by omega)]
   split
   ·rfl
   ·split
    ·rfl
    ·exact hq
  ·rw[iW hg']at hz
   simp at hz
  ·refine⟨i,m,n,hi,hd,hm,hb,?_⟩
   rw[iW hg',iW (by omega)];simp
  ·rw[iW hg',iW (by omega)]
   simp
theorem Sz(hgr:dom gr=some 1)(hZ:∀m,Z gr m){X:ι->List Bool}{i:ι}{n m:Nat}(h:mE dom X)(hd:dom i=some n)(hm:m<n)(hs:pE dom Z X)(hz:Z i m):pE dom Z (iN gr X i m):=by
 have hl:=h i n hd;have hg:=h gr 1 hgr;cases hb:bit X i m with
 |true=>
  have e:iN gr X i m=X:=by simp[iN,hb]
  rw[e];exact hs
 |false=>
  have e:iN gr X i m=bH (bH X i m true) gr 0 true:=by simp[iN,hb]
  rw[e];have hg':0<(bH X i m true gr).length:=by rw[rU];omega
  intro j k q hj hq hbq;rw[iW hg',iW (by omega)]at hbq;by_cases c1:j=gr/\q=0
  ·rw[c1.1];exact hZ q
  ·rw[if_neg c1]at hbq
   by_cases c2:j=i/\q=m
   ·rw[c2.1,c2.2];exact hz
   ·rw[if_neg c2]at hbq
    exact hs j k q hj hq hbq
omit [DecidableEq ι] in
theorem MF{n:Nat}{f:Nat->(ι->List Bool)->ι->List Bool}(hf:∀k,k<n->∀Y,mE dom Y->lT gr dom Y (f k Y)){X:ι->List Bool}(h:mE dom X):lT gr dom X (bO n f X)/\
 (bit (bO n f X) gr 0=false->∀k,k<n->bit (f k X) gr 0=false):=by
 induction n with
 |zero=>exact⟨lT.refl h,fun _ k hk=>absurd hk (Nat.not_lt_zero _)⟩
 |succ n ih=>
  obtain⟨h1,h2⟩:=ih fun k hk=>hf k (by omega);have h3:=hf n (by omega) _ h1.eG;refine⟨h1.trans h3,fun hz k hk=> ?_⟩;have hz':bit (f n (bO n f X)) gr 0=false:=hz;have e1:=h3.still hz';have hz1:bit (bO n f X) gr 0=false:=by rw[<-e1];exact hz'
  rcases Nat.lt_succ_iff_lt_or_eq.1 hk with hk|rfl
  ·exact h2 hz1 k hk
  ·rw[h1.still hz1]at hz'
   exact hz'
omit [DecidableEq ι] in
theorem SA{n:Nat}{f:Nat->(ι->List Bool)->ι->List Bool}(hf:∀k,k<n->∀Y,mE dom Y->lT gr dom Y (f k Y))(hg:∀k,k<n->∀Y,mE dom Y->pE dom Z Y->pE dom Z (f k Y)){X:ι->List Bool}(h:mE dom X)(hs:pE dom Z X):pE dom Z (bO n f X):=by
 induction n with
 |zero=>exact hs
 |succ n ih=>
  have h1:=(MF (n:=n) (f:=f) (fun k hk=>hf k (by omega)) h).1;exact hg n (by omega) _ h1.eG (ih (fun k hk=>hf k (by omega)) fun k hk=>hg k (by omega))
structure sS(gr:ι)(dom:ι->Option Nat)(Z:ι->Nat->Prop)(X0:ι->List Bool)(R:List Ru)(f:Ru->(ι->List Bool)->ι->List Bool)(X:ι->List Bool):Prop where
 eG:mE dom X
 snd:pE dom Z X
 up:∀i m,i≠gr->bit X0 i m=true->bit X i m=true
 held:bit X gr 0=false->∀q,q<R.length->bit (f (R.getD q (0,[])) X) gr 0=false
def Et(gr:ι)(sU:List (ι×Nat))(X:ι->List Bool):Nat:=2*(sU.filter fun p=> !bit X p.1 p.2).length+if bit X gr 0 then 1 else 0
theorem sS.next{X0:ι->List Bool}{R:List Ru}{f:Ru->(ι->List Bool)->ι->List Bool}{sU:List (ι×Nat)}(hgr:dom gr=some 1)(hin:∀i n m,i≠gr->dom i=some n->m<n->(i,m)∈sU)(hno:∀p∈sU,p.1≠gr)(hZ:∀m,Z gr m)
 (hf:∀q,q<R.length->∀Y,mE dom Y->lT gr dom Y (f (R.getD q (0,[])) Y)) (hs:∀q,q<R.length->∀Y,mE dom Y->pE dom Z Y->pE dom Z (f (R.getD q (0,[])) Y))
 (X:ι->List Bool) (h:sS gr dom Z X0 R f X) (hg:bit X gr 0=true):
 sS gr dom Z X0 R f (mY R f R.length (bH X gr 0 false))/\Et gr sU (mY R f R.length (bH X gr 0 false))<Et gr sU X:=by
 have hl:=h.eG gr 1 hgr;have s1:mE dom (bH X gr 0 false):=fun i n hd=>by rw[rU];exact h.eG i n hd
 have n1:pE dom Z (bH X gr 0 false):=fun i n m hd hm hb=>by
  rw[iW (by omega)]at hb;by_cases c:i=gr/\m=0
  ·rw[c.1];exact hZ m
  ·rw[if_neg c]at hb;exact h.snd i n m hd hm hb
 have g1:bit (bH X gr 0 false) gr 0=false:=by rw[iW (by omega)];simp
 have f1:∀i m,i≠gr->bit (bH X gr 0 false) i m=bit X i m:=fun i m hi=>by rw[iW (by omega),if_neg (fun e=>hi e.1)]
 obtain⟨u1,u2⟩:=MF (n:=R.length) (f:=fun q=>f (R.getD q (0,[]))) hf s1;have e0:mY R f R.length (bH X gr 0 false)=bO R.length (fun q=>f (R.getD q (0,[]))) (bH X gr 0 false):=rfl;rw[<-e0]at u1 u2;refine⟨⟨u1.eG,SA hf hs s1 n1,fun i m hi hb=>u1.up _ _ (by rw[f1 i m hi];exact h.up i m hi hb),fun hz=> ?_⟩,?_⟩
 ·rw[u1.still hz];exact u2 hz
 ·have e:(sU.filter fun p=> !bit (bH X gr 0 false) p.1 p.2)=sU.filter fun p=> !bit X p.1 p.2:=List.filter_congr fun p hp=>by rw[f1 _ _ (hno p hp)]
  unfold Et;rw[hg];cases hz:bit (mY R f R.length (bH X gr 0 false)) gr 0 with
  |true=>
   have:(sU.filter fun p=> !bit (mY R f R.length (bH X gr 0 false)) p.1 p.2).length<(sU.filter fun p=> !bit (bH X gr 0 false) p.1 p.2).length:=by
    obtain⟨i,m,n,a1,a2,a3,a4,a5⟩:=u1.grew g1 hz;refine(filter_lt _ _ (fun p hp=> ?_) sU).2 ⟨(i,m),hin i n m a1 a2 a3,by simp[a4],by simp[a5]⟩;cases hb:bit (bH X gr 0 false) p.1 p.2 with
    |false=>rfl
    |true=>simp[u1.up _ _ hb]at hp
   rw[e]at this;simp only[if_true];omega
  |false=>rw[u1.still hz,e];simp only[if_true,Bool.false_eq_true,if_false];omega
end
inductive Iv where
 |gr|a|b
 |r (n:Nat)
 deriving DecidableEq
abbrev Vs:=Iv->List Bool
def qw(r:Ru)(X:Vs):Vs:=if dR (X .a) r.2 then iN .gr X .a r.1.toNat else X
def rD(l:List Sy)(k:Nat)(Y:Vs):Vs:=if (l.getD k (false,0)).1 then Y else iN .gr Y .b (l.getD k (false,0)).2.toNat
def MG(l:List Sy)(X:Vs):Vs:=bO l.length (rD l) X
def qx(r:Ru)(X:Vs):Vs:=if bit X .b r.1.toNat&&dR (X .a) r.2 then MG r.2 X else X
def gG(N:Nat):Iv->Option Nat
 | .gr=>some 1
 | .a=>some N
 | .b=>none
 | .r _=>none
def eZ(N:Nat):Iv->Option Nat
 | .gr=>some 1
 | .a=>some N
 | .b=>some N
 | .r _=>none
section
variable{T N:Nat}{R:List Ru}
def ZM(N:Nat)(R:List Ru):Iv->Nat->Prop
 | .a,m=>eH N R m
 |_,_=>True
theorem SB{r:Ru}(hL:0<=r.1/\r.1<(N:Int)){X:Vs}(h:mE (gG N) X):lT .gr (gG N) X (qw r X)/\(bit (qw r X) .gr 0=false->dR (X .a) r.2=true->bit X .a r.1.toNat=true):=by
 unfold qw;cases hb:dR (X .a) r.2 with
 |true=>
  simp only[if_true];obtain⟨p1,p2⟩:=Sw (gr:=Iv.gr) (dom:=gG N) (i:= .a) (n:=N) (m:=r.1.toNat) rfl h rfl (by omega) (by simp);exact⟨p1,fun hz _=>by rw[p1.still hz]at p2;exact p2⟩
 |false=>exact⟨by simpa using lT.refl h,fun _ h=>by cases h⟩
theorem aaA(hf:cO T N R){r:Ru}(hr:r∈R){X:Vs}(h:mE (gG N) X)(hs:pE (gG N) (ZM N R) X):pE (gG N) (ZM N R) (qw r X):=by
 have hL:=hf.left r hr;unfold qw;cases hb:dR (X .a) r.2 with
 |true=>
  simp only[if_true];refine Sz (gr:=Iv.gr) (i:= .a) (n:=N) rfl (fun _=>trivial) h rfl (by omega) hs ?_;show eH N R _;rw[rW hL.1];refine jo (Gr hf) _ ⟨r,hr,rfl,fun s hsr hsb=> ?_⟩;have hn:=hf.name r hr s hsr hsb;have:=(wQ (fun s hs hb=>(hf.name r hr s hs hb).1)).1 hb s hsr hsb;have:=hs .a N s.2.toNat rfl (by omega) this.2;have:eH N R (s.2.toNat:Nat):=this
  rwa [rW hn.1]at this
 |false=>simpa using hs
theorem aaB(hf:cO T N R){X0 X:Vs}(h:sS .gr (gG N) (ZM N R) X0 R qw X)(hg:bit X .gr 0=false):∀n,hasB (X .a) n↔eH N R n:=by
 have hl:=h.eG .a N rfl;refine fun n=>⟨fun hn=> ?_,fun hn=> ?_⟩
 ·have hb:bit X .a n.toNat=true:=hn.2
  have:=h.snd .a N n.toNat rfl (by have:=Kk hb;omega) hb;have:eH N R (n.toNat:Nat):=this
  rwa [rW hn.1]at this
 ·refine C8 (Qh R) (A:=hasB (X .a)) (fun n hn=> ?_) N n hn
  obtain⟨r,hr,rfl,ha⟩:=hn;obtain⟨q,hq,rfl⟩:=Db hr;have hL:=hf.left _ hr;exact⟨hL.1,(SB hL h.eG).2 (h.held hg q hq) ((wQ (fun s hs hb=>(hf.name _ hr s hs hb).1)).2 ha)⟩
def ZC(N:Nat)(R:List Ru):Iv->Nat->Prop
 | .a,m=>eH N R m
 | .b,m=>lK N R m
 |_,_=>True
theorem MH{l:List Sy}(hin:∀s∈l,s.1=false->0<=s.2/\s.2<(N:Int)){k:Nat}(hk:k<l.length){X:Vs}(h:mE (eZ N) X):lT .gr (eZ N) X (rD l k X)/\((l.getD k (false,0)).1=false->bit (rD l k X) .b (l.getD k (false,0)).2.toNat=true):=by
 have hm:l.getD k (false,0)∈l:=by simp[List.getD,hk]
 unfold rD;cases hb:(l.getD k (false,0)).1 with
 |true=>exact⟨by simpa using lT.refl h,fun h=>by cases h⟩
 |false=>
  have:=hin _ hm hb;simp only[Bool.false_eq_true,if_false];obtain⟨p1,p2⟩:=Sw (gr:=Iv.gr) (dom:=eZ N) (i:= .b) (n:=N) (m:=(l.getD k (false,0)).2.toNat) rfl h rfl (by omega) (by simp);exact⟨p1,fun _=>p2⟩
theorem SC(hf:cO T N R){r:Ru}(hr:r∈R){X:Vs}(h:mE (eZ N) X):lT .gr (eZ N) X (qx r X)/\
 (bit (qx r X) .gr 0=false->bit X .b r.1.toNat=true->dR (X .a) r.2=true->∀n:Int,(false,n)∈r.2->bit X .b n.toNat=true):=by
 unfold qx;cases hb:(bit X .b r.1.toNat&&dR (X .a) r.2) with
 |true=>
  simp only[if_true];obtain⟨u1,u2⟩:=MF (gr:=Iv.gr) (dom:=eZ N) (n:=r.2.length) (f:=rD r.2) (fun k hk Y hY=>(MH (hf.name r hr) hk hY).1) h;refine⟨u1,fun hz _ _ n hn=> ?_⟩;obtain⟨k,hk,he⟩:=List.getElem_of_mem hn;have hz1:=u2 hz k hk;obtain⟨v1,v2⟩:=MH (hf.name r hr) hk h;have e:r.2.getD k (false,0)=(false,n):=by simp[List.getD,hk,he]
  rw[e]at v2;have:=v2 rfl
  rwa [v1.still hz1]at this
 |false=>
  refine⟨by simpa using lT.refl h,fun _ h1 h2=> ?_⟩;rw[h1,h2]at hb;cases hb
theorem aaC(hf:cO T N R){r:Ru}(hr:r∈R){X:Vs}(h:mE (eZ N) X)(hs:pE (eZ N) (ZC N R) X):pE (eZ N) (ZC N R) (qx r X):=by
 have hL:=hf.left r hr;unfold qx;cases hb:(bit X .b r.1.toNat&&dR (X .a) r.2) with
 |true=>
  simp only[if_true];simp only[Bool.and_eq_true]at hb
  have hc:lK N R r.1:=by
   have:lK N R (r.1.toNat:Nat):=hs .b N r.1.toNat rfl (by omega) hb.1
   rwa [rW hL.1]at this
  have ha:nY (eH N R) r.2:=fun s hsr hsb=>by
   have hn:=hf.name r hr s hsr hsb;have:=(wQ (fun s hs hb=>(hf.name r hr s hs hb).1)).1 hb.2 s hsr hsb;have:eH N R (s.2.toNat:Nat):=hs .a N s.2.toNat rfl (by omega) this.2
   rwa [rW hn.1]at this
  refine SA (gr:=Iv.gr) (fun k hk Y hY=>(MH (hf.name r hr) hk hY).1) (fun k hk Y hY Iz=> ?_) h hs;have hm:r.2.getD k (false,0)∈r.2:=by simp[List.getD,hk]
  unfold rD;obtain⟨⟨x,v⟩,hx⟩:∃x,r.2.getD k (false,0)=x:=⟨_,rfl⟩;rw[hx]at hm⊢;cases x with
  |true=>simpa using Iz
  |false=>
   have hn:=hf.name r hr _ hm rfl;simp only[Bool.false_eq_true,if_false];simp only at hn;refine Sz (gr:=Iv.gr) (i:= .b) (n:=N) rfl (fun _=>trivial) hY rfl (by omega) Iz ?_;show lK N R _;rw[rW hn.1];exact jo (Au hf _) _ (.inr ⟨r,hr,hm,ha,hc⟩)
 |false=>simpa using hs
theorem aaD(hf:cO T N R){X0 X:Vs}(h0:∀n,eH N R n->hasB (X0 .a) n)(h1:eH N R 0->bit X0 .b 0=true)(h:sS .gr (eZ N) (ZC N R) X0 R qx X)(hg:bit X .gr 0=false):∀n,hasB (X .b) n↔lK N R n:=by
 have hl:=h.eG .b N rfl;have hA:∀n,eH N R n->hasB (X .a) n:=fun n hn=>⟨(h0 n hn).1,h.up .a _ (by simp) (h0 n hn).2⟩;refine fun n=>⟨fun hn=> ?_,fun hn=> ?_⟩
 ·have hb:bit X .b n.toNat=true:=hn.2
  have:lK N R (n.toNat:Nat):=h.snd .b N n.toNat rfl (by have:=Kk hb;omega) hb
  rwa [rW hn.1]at this
 ·refine C8 (Qi R (eH N R)) (A:=hasB (X .b)) (fun n hn=> ?_) N n hn
  rcases hn with⟨rfl,hm⟩|⟨r,hr,hmem,ha,hc⟩
  ·exact⟨Int.le_refl _,h.up .b 0 (by simp) (h1 hm)⟩
  ·obtain⟨q,hq,rfl⟩:=Db hr
   exact⟨(hf.name _ hr _ hmem rfl).1,(SC hf hr h.eG).2 (h.held hg q hq) hc.2 ((wQ (fun s hs hb=>(hf.name _ hr s hs hb).1)).2 (ha.mono hA)) n hmem⟩
end
end Go.Proofs.YtpkmpkphfflpjaaGreat
namespace Go.Proofs.YtpkmpkphfflpjaaGreat
open Go.RowKit
def bR(dom:Iv->Option Nat)(va vb:Value)(vr:Nat->Value)(gb:Nat):dP Iv:=⟨fun| .gr=> .slice (some ⟨gb,0,none⟩) 1 1| .a=>va| .b=>vb| .r n=>vr n,dom⟩
theorem IA{dom:Iv->Option Nat}{va vb:Value}{vr:Nat->Value}{gb:Nat}(h:dom .gr=some 1):Mark (bR dom va vb vr gb) .gr gb:=⟨rfl,h⟩
theorem SE{ι:Type}{c:dP ι}{w:World}{B N lc:Nat}{la:Option Addr}{i:ι}{X:ι->List Bool}{l:List Sy}(h:Bt w B c X)(hB:B<=w.heap.size)(hd:c.dom i=some N)(hl:iq w B la l)(hin:∀s∈l,s.1=false->0<=s.2/\s.2<(N:Int))(h8:l.length<=1000):
 Calls Tryz.prog 66 #[c.V i,.slice la l.length lc] w fun e w'=>e= .returned (.bool (dR (X i) l))/\Below w.heap.size w w':=by
 obtain⟨va,vc,hv⟩:=Bt.slice h hd;have HB:Hid (Bt w B c X):=h;have HV:Hid (c.V i= .slice va N vc):=hv;have HL:Hid (iq w B la l):=hl;have HI:Hid (∀s∈l,s.1=false->0<=s.2/\s.2<(N:Int)):=hin;rw[hv];clear h hv hl hin
 go_enter Tryz.func66,Tryz.ntmps66
 go_wp2_with fail
 go_loopw [9] (fun s wr=> ∃k:Nat,s= .int .i64 k/\k<=l.length/\dR (X i) (l.take k)=true/\Below w.heap.size w wr) (fun s _=>l.length-(intOf s).toNat)
 case atStart=>exact⟨0,rfl,Nat.zero_le _,rfl,Below.refl _ _⟩
 case round=>
  obtain⟨k,rfl,hk,hn,hb⟩:=hrel;have HN:Hid (dR (X i) (l.take k)=true):=hn;have mr:Hid (Below w.heap.size w wr):=hb;have iC:Hid (Bt wr B c X):=Bt.below HB.out hb;clear hn hb;by_cases hlt:k<l.length
  ·obtain⟨b',o',eF,hb',k3,k4⟩:=HL.out k hlt
   subst eF;have hmem:l.getD k (false,0)∈l:=by simp[List.getD,hlt]
   have hr:=HI.out _ hmem;obtain⟨⟨t,v⟩,hs⟩:∃x,l.getD k (false,0)=x:=⟨_,rfl⟩;have HT:=Pq (X i) l k hlt;have eP:=Xx (X i) l k hlt;rw[hs]at k3 k4 hr HT eP;rw[HN.out,Bool.true_and]at HT;have MI:Hid (dR (X i) (l.take (k+1))=(t||(X i).getD v.toNat false)):=HT;have uM:Hid ((t||(X i).getD v.toNat false)=false->dR (X i) l=false):=eP;have Er:wr.cell? ⟨b',o'+k*2,none⟩=some (.bool t):=(mr.out.cell (p:=⟨b',o'+k*2,none⟩) (by simp only;omega)).trans k3;have yT:wr.cell? ⟨b',o'+k*2+1,none⟩=some (.int .i64 v):=by rw[Nat.add_assoc];exact(mr.out.cell (p:=⟨b',o'+(k*2+1),none⟩) (by simp only;omega)).trans k4
   have j0:(0:Int)<=(k:Int):=Int.natCast_nonneg _;have j1:(k:Int)<(l.length:Int):=by omega
   have HA:Hid (Below w.heap.size w (wr.alloc (.cells #[.bool t,.int .i64 v] 104))):=mr.out.alloc mr.out.size _;clear hs hmem HT eP k3 k4;cases t with
   |true=>
    go_wp2_with fail
    go_roundw
    case rel=>exact⟨k+1,by go_num,by omega,by rw[MI.out];rfl,HA.out⟩
    case measure=>simp[intOf];omega
   |false=>
    have hr':0<=v/\v<(N:Int):=hr rfl;clear hr;obtain⟨y,rfl⟩:∃y:Nat,v=y:=⟨v.toNat,by omega⟩;obtain⟨g,cap,hv,_,hgl⟩:=Bt.form iC.out hd (by omega);have hv':=HV.out;rw[hv]at hv';cases hv';obtain⟨k5,_⟩:=Bt.cell iC.out hd hv (m:=y) (by omega);have k6:(wr.alloc (.cells #[.bool false,.int .i64 y] 104)).cell? ⟨g,y,none⟩=some (.bool (bit X i y)):=by rw[World.cell?_alloc_past _ _ _ hgl];exact k5
    have j2:(0:Int)<=(y:Int):=Int.natCast_nonneg _;have j3:(y:Int)<(N:Int):=by omega
    obtain⟨z,hz⟩:∃z,bit X i y=z:=⟨_,rfl⟩;have hz':(X i).getD y false=z:=hz;rw[hz]at k6;simp only[Int.toNat_natCast,hz']at MI uM;clear hz hz' hr' k5 hv;cases z with
    |true=>
     go_wp2_with fail
     go_roundw
     case rel=>exact⟨k+1,by go_num,by omega,by rw[MI.out];rfl,HA.out⟩
     case measure=>simp[intOf];omega
    |false=>
     go_wp2_with fail
     go_ret;exact⟨by rw[uM.out (by simp)];rfl,HA.out⟩
  ·go_wp2_with fail
   go_ret;exact⟨by rw[<-HN.out,List.take_of_length_le (by omega)];rfl,mr.out⟩
theorem aaE{w:World}{B N lc gb:Nat}{dom:Iv->Option Nat}{va vb:Value}{vr:Nat->Value}{la:Option Addr}{X:Vs}{l:List Sy}(h:Bt w B (bR dom va vb vr gb) X)(hB:B<=w.heap.size)(hgr:dom .gr=some 1)(hd:dom .b=some N)(hl:iq w B la l)(hin:∀s∈l,s.1=false->0<=s.2/\s.2<(N:Int))(h8:l.length<=1000):
 Calls Tryz.prog 68 #[vb,.slice la l.length lc,.func (.func 70) #[] #[.pointer (some ⟨gb,0,none⟩)]] w fun e w'=>e= .returned (.tuple #[])/\Bt w' B (bR dom va vb vr gb) (MG l X)/\Kept (bR dom va vb vr gb).K w w':=by
 obtain⟨ba,bc,hv'⟩:=Bt.slice (i:=Iv.b) h hd;have hv:vb= .slice ba N bc:=hv';subst hv;have HB:Hid (Bt w B (bR dom va (.slice ba N bc) vr gb) X):=h;have HL:Hid (iq w B la l):=hl;have HI:Hid (∀s∈l,s.1=false->0<=s.2/\s.2<(N:Int)):=hin;clear h hv' hl hin
 go_enter Tryz.func68,Tryz.ntmps68
 go_wp2_with fail
 go_loopw [10] (fun s wr=> ∃k:Nat,s= .int .i64 k/\k<=l.length/\Bt wr B (bR dom va (.slice ba N bc) vr gb) (bO k (rD l) X)/\Kept (bR dom va (.slice ba N bc) vr gb).K w wr) (fun s _=>l.length-(intOf s).toNat)
 case atStart=>exact⟨0,rfl,Nat.zero_le _,HB.out,Kept.refl _ _⟩
 case round=>
  obtain⟨k,rfl,hk,hBr,hKr⟩:=hrel;obtain⟨Y,hY⟩:∃Y,bO k (rD l) X=Y:=⟨_,rfl⟩;rw[hY]at hBr;have HY:Hid (bO k (rD l) X=Y):=hY;have iC:Hid (Bt wr B (bR dom va (.slice ba N bc) vr gb) Y):=hBr;have mZ:Hid (Kept (bR dom va (.slice ba N bc) vr gb).K w wr):=hKr;have xE:Hid (Below B w wr):=hKr.below (fun b hb=>Bt.ge HB.out hb) hB;clear hY hBr hKr;by_cases hlt:k<l.length
  ·obtain⟨b',o',eF,hb',k3,k4⟩:=HL.out k hlt
   subst eF;have hmem:l.getD k (false,0)∈l:=by simp[List.getD,hlt]
   have hr:=HI.out _ hmem;have hstep:bO (k+1) (rD l) X=if (l.getD k (false,0)).1 then Y else iN .gr Y .b (l.getD k (false,0)).2.toNat:=by rw[<-HY.out];rfl
   obtain⟨⟨t,v⟩,hs⟩:∃x,l.getD k (false,0)=x:=⟨_,rfl⟩;rw[hs]at k3 k4 hr hstep;have Er:wr.cell? ⟨b',o'+k*2,none⟩=some (.bool t):=(xE.out.cell (p:=⟨b',o'+k*2,none⟩) hb').trans k3;have yT:wr.cell? ⟨b',o'+k*2+1,none⟩=some (.int .i64 v):=by rw[Nat.add_assoc];exact(xE.out.cell (p:=⟨b',o'+(k*2+1),none⟩) hb').trans k4
   have j0:(0:Int)<=(k:Int):=Int.natCast_nonneg _;have j1:(k:Int)<(l.length:Int):=by omega
   have HA:Hid (Bt (wr.alloc (.cells #[.bool t,.int .i64 v] 104)) B (bR dom va (.slice ba N bc) vr gb) Y):=Bt.alloc iC.out _;have ni:Hid (Kept (bR dom va (.slice ba N bc) vr gb).K w (wr.alloc (.cells #[.bool t,.int .i64 v] 104))):=mZ.out.alloc _;have HS:Hid (bO (k+1) (rD l) X=if t then Y else iN .gr Y .b v.toNat):=hstep;clear hs hmem k3 k4 hstep;cases t with
   |true=>
    go_wp2_with fail
    go_roundw
    case rel=>exact⟨k+1,by go_num,by omega,by rw[HS.out];exact HA.out,ni.out⟩
    case measure=>simp[intOf];omega
   |false=>
    have hr':0<=v/\v<(N:Int):=hr rfl;clear hr;obtain⟨y,rfl⟩:∃y:Nat,v=y:=⟨v.toNat,by omega⟩;have put:=Iu (i:=Iv.b) (m:=y) HA.out (IA hgr) hd (by omega) (by simp);have put':Calls Tryz.prog 70 #[.slice ba N bc,.int .i64 y,.pointer (some ⟨gb,0,none⟩)] _ _:=put;clear put hr'
    go_wp2_with (go_at_call 70;refine put'.mono ?_;rintro e w2 ⟨rfl,hB2,hK2⟩)
    go_roundw
    case rel=>exact⟨k+1,by go_num,by omega,by rw[HS.out];simpa using hB2,ni.out.trans hK2⟩
    case measure=>simp[intOf];omega
  ·obtain rfl:k=l.length:=by omega
   go_wp2_with fail
   go_end0
   exact⟨rfl,by show Bt _ _ _ (bO l.length (rD l) X);rw[HY.out];exact iC.out,mZ.out⟩
section
variable{N:Nat}{va vb:Value}{vr:Nat->Value}{gb:Nat}
theorem aaF{w:World}{B sx qc T:Nat}{qa:Option Addr}{X:Vs}{R:List Ru}{r:Ru}(h:Bt w B (bR (gG N) va vb vr gb) X)(hB:B<=w.heap.size)(hs:w.cell? ⟨sx,0,none⟩=some va)(nP:¬(bR (gG N) va vb vr gb).K sx)
 (hf:cO T N R) (hr:r∈R) (h8:r.2.length<=8) (hR:iq w B qa r.2):
 Calls Tryz.prog 65 #[.agg #[.int .i64 r.1,.slice qa r.2.length qc],.func (.func 70) #[] #[.pointer (some ⟨gb,0,none⟩)],.pointer (some ⟨sx,0,none⟩)] w fun e w'=>
  e= .returned (.tuple #[])/\Bt w' B (bR (gG N) va vb vr gb) (qw r X)/\Kept (bR (gG N) va vb vr gb).K w w':=by
 have hL:=hf.left r hr;have hin:=hf.name r hr;obtain⟨L,Rt⟩:=r;simp only at hL hin h8 hR⊢;obtain⟨l,rfl⟩:∃l:Nat,L=l:=⟨L.toNat,by omega⟩;obtain⟨aa,ac,hv'⟩:=Bt.slice (i:=Iv.a) (n:=N) h rfl;have hv:va= .slice aa N ac:=hv';clear hv';subst hv;have hK1:Kept (bR (gG N) (.slice aa N ac) vb vr gb).K w (w.alloc (.cells #[.int .i64 l,.slice qa Rt.length qc] 79)):=(Kept.refl _ _).alloc _;have qo:=hR.below (hK1.below (fun b hb=>Bt.ge h hb) hB);have all:=SE (i:=Iv.a) (N:=N) (lc:=qc) (Bt.alloc h (.cells #[.int .i64 l,.slice qa Rt.length qc] 79)) (by simp;omega) rfl qo hin (by omega);have all':Calls Tryz.prog 66 #[.slice aa N ac,.slice qa Rt.length qc] _ _:=all;have hs1:=hK1.cell nP hs;have HB:Hid (Bt w B (bR (gG N) (.slice aa N ac) vb vr gb) X):=h;have HsK:Hid (¬(bR (gG N) (.slice aa N ac) vb vr gb).K sx):=nP;have HM:Hid (qw ((l:Int),Rt) X=if dR (X .a) Rt then iN .gr X .a l else X):=by show qw ((l:Int),Rt) X=_;simp[qw]
 obtain⟨z,hz⟩:∃z,dR (X .a) Rt=z:=⟨_,rfl⟩;rw[hz]at HM all';clear all hz h nP hR qo hin;cases z with
 |true=>
  go_enter Tryz.func65,Tryz.ntmps65
  go_wp2_with
   (first
    |(go_at_call 66;refine all'.mono ?_;rintro e w2 ⟨rfl,hb2⟩
      have q0:=(hb2.cell (p:=⟨sx,0,none⟩) (World.block_lt_of_cell? _ _ hs1)).trans hs1;have q1:w2.cell? ⟨w.heap.size,0,none⟩=some (.int .i64 l):=(hb2.cell (by simp)).trans (by simp[go_sem]);have hB2:Bt w2 B (bR (gG N) (.slice aa N ac) vb vr gb) X:=Bt.below (Bt.alloc HB.out _) hb2;have put:=Iu (i:=Iv.a) (n:=N) (m:=l) hB2 (IA rfl) rfl (by omega) (by simp);have put':Calls Tryz.prog 70 #[.slice aa N ac,.int .i64 l,.pointer (some ⟨gb,0,none⟩)] _ _:=put;have fC:Hid (Kept (bR (gG N) (.slice aa N ac) vb vr gb).K w w2):=hK1.trans (Kept.iU hb2)
      clear hB2 put hb2 all' hs1)
    |(go_at_call 70;refine put'.mono ?_;rintro e w3 ⟨rfl,hB3,hK3⟩))
  go_end0
  exact⟨rfl,by rw[HM.out];exact hB3,fC.out.trans hK3⟩
 |false=>
  go_enter Tryz.func65,Tryz.ntmps65
  go_wp2_with
   (go_at_call 66;refine all'.mono ?_;rintro e w2 ⟨rfl,hb2⟩
    have HB2:Hid (Bt w2 B (bR (gG N) (.slice aa N ac) vb vr gb) X):=Bt.below (Bt.alloc HB.out _) hb2;have fC:Hid (Kept (bR (gG N) (.slice aa N ac) vb vr gb).K w w2):=hK1.trans (Kept.iU hb2)
    clear hb2 all' hs1)
  go_end0
  exact⟨rfl,by rw[HM.out];exact HB2.out,fC.out⟩
end
theorem zf{T N:Nat}{R:List Ru}(h:aZ T N R=true):cO T N R:=by
 obtain⟨_,h1,_,_,h5⟩:=kM h
 have mem:∀r∈R,0<=r.1/\r.1<(N:Int)/\∀s∈r.2,0<=s.2/\s.2<if s.1 then (T:Int) else (N:Int):=fun r hr=>by
  obtain⟨q,hq,rfl⟩:=Db hr;exact⟨(h5 q hq).1,(h5 q hq).2.1,(h5 q hq).2.2.2⟩
 refine⟨fun r hr=>⟨(mem r hr).1,(mem r hr).2.1⟩,fun r hr s hs hb=> ?_,fun r hr s hs hb=> ?_,h1⟩
 ·have:=(mem r hr).2.2 s hs;rw[hb]at this;simpa using this
 ·have:=(mem r hr).2.2 s hs;rw[hb]at this;simpa using this
def sV:Nat->Value:=fun _=> .slice none 0 0
def uN(N:Nat):Vs
 | .a=>List.replicate N false
 | .gr=>[true]
 |_=>[]
theorem SF{w:World}{B:Nat}(hB:B<=w.heap.size):(w.alloc (.cells #[.bool true] 4)).ownsRow B 4 1 (.slice (some ⟨w.heap.size,0,none⟩) 1 1) 1 ([true].map Value.bool):=by
 have:=World.ownsRow_lit (base:=B) (e:=4) (size:=1) w #[.bool true] 1 hB (by unfold maxLen;omega) rfl;simpa using this
theorem aaG{w1:World}{N:Nat}(hN:N<=maxLen)(o:Obj):Bt ((((w1.alloc (.cells (madeCells #[.bool false] N) 4)).alloc o)).alloc (.cells #[.bool true] 4)) w1.heap.size (bR (gG N) (.slice (some ⟨w1.heap.size,0,none⟩) N N) (.slice none 0 0) sV (w1.heap.size+2)) (uN N):=by
 have h0:Bt w1 w1.heap.size (⟨fun _=> .slice none 0 0,fun _=>none⟩:dP Iv) (uN N):=XA _ _ fun _=>rfl
 have h1:Bt (w1.alloc (.cells (madeCells #[.bool false] N) 4)) w1.heap.size (bR (fun| .a=>some N|_=>none) (.slice (some ⟨w1.heap.size,0,none⟩) N N) (.slice none 0 0) sV 0) (uN N):=
  F3 .a h0 ((Below.refl _ _).alloc (Nat.le_refl _) _) rfl (Kl w1 hN) (fun g hg=>by cases hg;exact Nat.le_refl _) (fun j hj m hm=>by cases j<;>simp_all [bR])
 have h2:=Bt.alloc h1 o;refine F3 .gr h2 ((Below.refl _ _).alloc (Nat.le_refl _) _) rfl ?_ (fun g hg=> ?_) (fun j hj m hm=>by cases j<;>simp_all [bR,gG])
 ·have:=SF (w:=(w1.alloc (.cells (madeCells #[.bool false] N) 4)).alloc o) (B:=w1.heap.size) (by simp;omega)
  simp only[World.size_alloc]at this;exact this
 ·simp only[bR,Value.ownBlock,Option.some.injEq]at hg
  simp only[World.size_alloc];omega
theorem aaH{N:Nat}{R:List Ru}:sS .gr (gG N) (ZM N R) (uN N) R qw (uN N):=by
 refine⟨fun i n hd=> ?_,fun i n m hd hm hb=> ?_,fun _ _ _ h=>h,fun hz=>by simp[bit,uN]at hz⟩
 ·cases i<;>simp[gG]at hd<;>subst hd<;>simp[uN]
 ·cases i<;>simp[gG]at hd
  ·trivial
  ·subst hd
   simp[bit,uN,List.getD,hm]at hb
def Eu(N:Nat):List (Iv×Nat):=(List.range N).map fun m=>(.a,m)
theorem aaI(N:Nat):∀i n m,i≠Iv.gr->gG N i=some n->m<n->(i,m)∈Eu N:=fun i n m hi hd hm=>by
 cases i<;>simp[gG]at hd hi;subst hd;simp[Eu,hm]
theorem aaJ(N:Nat):∀p∈Eu N,p.1≠Iv.gr:=fun p hp=>by
 simp only[Eu,List.mem_map]at hp;obtain⟨_,_,rfl⟩:=hp;simp
theorem bR.iV{dom:Iv->Option Nat}{va vb:Value}{vr:Nat->Value}{gb b:Nat}(h:∀i n,dom i=some n->((bR dom va vb vr gb).V i).ownBlock≠some b):¬(bR dom va vb vr gb).K b:=fun⟨i,n,hd,hb⟩=>h i n hd hb
theorem SG{w:World}{T N:Nat}{rv:Value}{R:List Ru}(hr:aD w w.heap.size rv R)(hm:aZ T N R=true):
 Calls Tryz.prog 46 #[.agg #[.int .i64 T,.int .i64 N,rv]] w fun e w'=> ∃g Y,e= .returned (.tuple #[.slice (some ⟨g,0,none⟩) N N,.int .i64 0])/\Below w.heap.size w w'/\fO w' (w.heap.size+1) g N Y/\∀n,hasB Y n↔eH N R n:=by
 have hf:=zf hm;obtain⟨hT,hN1,hN,hRl,zh⟩:=kM hm;obtain⟨ra,rc,bW⟩:=hr.1;subst bW;have may:=sQ (T:=T) (N:=N) (hr.boxed (.cells #[.int .i64 T,.int .i64 N,.slice ra R.length rc] 24));rw[hm]at may;have HR:Hid (aD w w.heap.size (.slice ra R.length rc) R):=hr;have HF:Hid (cO T N R):=hf;have HQ:Hid (∀q,q<R.length->(R.getD q (0,[])).2.length<=8):=fun q hq=>(zh q hq).2.2.1;have Bg:=Ad N (by omega);clear hr hm hf zh
 go_enter Tryz.func46,Tryz.ntmps46
 go_wp2_with
  (first
   |(go_at_call 13;refine may.mono ?_;rintro e w1 ⟨rfl,hB1⟩
     have b1:w1.cell? ⟨w.heap.size,1,none⟩=some (.int .i64 N):=(hB1.cell (by simp)).trans (by simp[go_sem]);have b2:w1.cell? ⟨w.heap.size,2,none⟩=some (.slice ra R.length rc):=(hB1.cell (by simp)).trans (by simp[go_sem]);have hs1:w.heap.size+1<=w1.heap.size:=by have:=hB1.size;simpa using this
     have HX:Hid (Below w.heap.size w w1):=((Below.refl _ _).alloc (Nat.le_refl _) _).trans (hB1.mono (by simp))
     have m2:((w1.alloc (.cells (madeCells #[.bool false] N) 4)).alloc (.cells #[.slice (some ⟨w1.heap.size,0,none⟩) N N] 81)).cell? ⟨w.heap.size,2,none⟩=some (.slice ra R.length rc):=by
      rw[World.cell?_alloc_past _ _ _ (by simp;omega),World.cell?_alloc_past _ _ _ (by omega)];exact b2
     clear hB1 may)
   |(go_at_call 51
     have lU:=aaG (w1:=w1) (N:=N) (by unfold maxLen;omega) (.cells #[.slice (some ⟨w1.heap.size,0,none⟩) N N] 81);have zi:Below w1.heap.size w1 (((w1.alloc (.cells (madeCells #[.bool false] N) 4)).alloc (.cells #[.slice (some ⟨w1.heap.size,0,none⟩) N N] 81)).alloc (.cells #[.bool true] 4)):=(((Below.refl _ _).alloc (Nat.le_refl _) _).alloc (by simp) _).alloc (by simp;omega) _;have kE:aD (((w1.alloc (.cells (madeCells #[.bool false] N) 4)).alloc (.cells #[.slice (some ⟨w1.heap.size,0,none⟩) N N] 81)).alloc (.cells #[.bool true] 4)) w1.heap.size (.slice ra R.length rc) R:=((HR.out.below HX.out).mono (by omega)).below zi;have nP:¬(bR (gG N) (.slice (some ⟨w1.heap.size,0,none⟩) N N) (.slice none 0 0) sV (w1.heap.size+2)).K (w1.heap.size+1):=bR.iV fun i n hd=>by cases i<;>simp[gG]at hd<;>simp[bR,Value.ownBlock]
     have hsv:(((w1.alloc (.cells (madeCells #[.bool false] N) 4)).alloc (.cells #[.slice (some ⟨w1.heap.size,0,none⟩) N N] 81)).alloc (.cells #[.bool true] 4)).cell? ⟨w1.heap.size+1,0,none⟩=some (.slice (some ⟨w1.heap.size,0,none⟩) N N):=by simp[go_sem]
     refine(MC (c:=bR (gG N) (.slice (some ⟨w1.heap.size,0,none⟩) N N) (.slice none 0 0) sV (w1.heap.size+2)) (gr:=Iv.gr) (B:=w1.heap.size) (X:=uN N) (R:=R) (f:=qw) (Head:=sS .gr (gG N) (ZM N R) (uN N) R qw) (mD:=Et .gr (Eu N))
      (by simpa using lU) (by simp;omega) (by simpa using IA (dom:=gG N) rfl) kE (by omega) (fun k hk w2 Y qa qc hK MJ Ev hqc=> ?_) (fun args w=>by simp[callFunc,Tryz.func65,Tryz.f65 ]) aaH
      (sS.next rfl (aaI N) (aaJ N) (fun _=>trivial) (fun q hq Y hY=>(SB (HF.out.left _ (jV hq)) hY).1) (fun q hq Y hY hs=>aaA HF.out (jV hq) hY hs))).mono ?_
     ·have e:∀a b c:Value,#[a,b]++ #[c]= #[a,b,c]:=fun a b c=>by simp
      rw[e];have hs:=hK.size;simp only[World.size_alloc]at hs⊢;exact aaF MJ (by omega) (hK.cell nP hsv) nP HF.out (jV hk) (HQ.out k hk) Ev
     rintro e w3 ⟨rfl,Y,hH,hg,hB3,hK3⟩;have n0:=hK3.cell nP hsv;have HB3:Hid (Bt w3 w1.heap.size (bR (gG N) (.slice (some ⟨w1.heap.size,0,none⟩) N N) (.slice none 0 0) sV (w1.heap.size+2)) Y):=hB3;have HL:Hid (∀n,hasB (Y .a) n↔eH N R n):=aaB HF.out hH hg;have HB:Hid (Below w.heap.size w w3):=HX.out.trans ((zi.trans (hK3.below (fun b hb=>Bt.ge hB3 hb) (by simp;omega))).mono (by omega))
     clear lU zi kE nP hsv hH hg hB3 hK3))
 refine bodyPost_ret (v:= .tuple #[.slice (some ⟨w1.heap.size,0,none⟩) N N,.int .i64 0]) (by simp[results,Tryz.results46,go_sem]) rfl ⟨w1.heap.size,Y .a,rfl,HB.out,jE (Bt.own (i:=Iv.a) HB3.out rfl) (by omega),HL.out⟩
section
variable{N:Nat}{va vb:Value}{vr:Nat->Value}{gb:Nat}
theorem aaK{w:World}{B sx mx qc T:Nat}{qa:Option Addr}{X:Vs}{R:List Ru}{r:Ru}(h:Bt w B (bR (eZ N) va vb vr gb) X)(hB:B<=w.heap.size)(hs:w.cell? ⟨sx,0,none⟩=some vb)(nP:¬(bR (eZ N) va vb vr gb).K sx)
 (hx:w.cell? ⟨mx,0,none⟩=some va) (Bh:¬(bR (eZ N) va vb vr gb).K mx) (hf:cO T N R) (hr:r∈R) (h8:r.2.length<=8) (hR:iq w B qa r.2):
 Calls Tryz.prog 67 #[.agg #[.int .i64 r.1,.slice qa r.2.length qc],.func (.func 70) #[] #[.pointer (some ⟨gb,0,none⟩)],.pointer (some ⟨sx,0,none⟩),.pointer (some ⟨mx,0,none⟩)] w fun e w'=>
  e= .returned (.tuple #[])/\Bt w' B (bR (eZ N) va vb vr gb) (qx r X)/\Kept (bR (eZ N) va vb vr gb).K w w':=by
 have hL:=hf.left r hr;have hin:=hf.name r hr;obtain⟨L,Rt⟩:=r;simp only at hL hin h8 hR⊢;obtain⟨l,rfl⟩:∃l:Nat,L=l:=⟨L.toNat,by omega⟩;obtain⟨aa,ac,hv'⟩:=Bt.slice (i:=Iv.a) (n:=N) h rfl;have hv:va= .slice aa N ac:=hv';clear hv';subst hv;obtain⟨bg,bc,hv',_,hbl⟩:=Bt.form (i:=Iv.b) (n:=N) h rfl (by omega);have hv:vb= .slice (some ⟨bg,0,none⟩) N bc:=hv';clear hv';subst hv;obtain⟨c1,_⟩:=Bt.cell (i:=Iv.b) (n:=N) h rfl rfl (m:=l) (by omega);have hK1:Kept (bR (eZ N) (.slice aa N ac) (.slice (some ⟨bg,0,none⟩) N bc) vr gb).K w (w.alloc (.cells #[.int .i64 l,.slice qa Rt.length qc] 79)):=(Kept.refl _ _).alloc _;have qo:=hR.below (hK1.below (fun b hb=>Bt.ge h hb) hB);have all:=SE (i:=Iv.a) (N:=N) (lc:=qc) (Bt.alloc h (.cells #[.int .i64 l,.slice qa Rt.length qc] 79)) (by simp;omega) rfl qo hin (by omega);have all':Calls Tryz.prog 66 #[.slice aa N ac,.slice qa Rt.length qc] _ _:=all;have hs1:=hK1.cell nP hs;have hx1:=hK1.cell Bh hx;have c1':(w.alloc (.cells #[.int .i64 l,.slice qa Rt.length qc] 79)).cell? ⟨bg,l,none⟩=some (.bool (bit X .b l)):=by rw[World.cell?_alloc_past _ _ _ hbl];exact c1
 have j0:(0:Int)<=(l:Int):=Int.natCast_nonneg _;have j1:(l:Int)<(N:Int):=by omega
 have HB:Hid (Bt w B (bR (eZ N) (.slice aa N ac) (.slice (some ⟨bg,0,none⟩) N bc) vr gb) X):=h;have HI:Hid (∀s∈Rt,s.1=false->0<=s.2/\s.2<(N:Int)):=hin;have HR1:Hid (iq (w.alloc (.cells #[.int .i64 l,.slice qa Rt.length qc] 79)) B qa Rt):=qo;have HM:Hid (qx ((l:Int),Rt) X=if bit X .b l&&dR (X .a) Rt then MG Rt X else X):=by show qx ((l:Int),Rt) X=_;simp[qx]
 obtain⟨z,hz⟩:∃z,dR (X .a) Rt=z:=⟨_,rfl⟩;obtain⟨y,hy⟩:∃y,bit X .b l=y:=⟨_,rfl⟩;rw[hz]at HM all';rw[hy]at HM c1';clear all hz hy h nP Bh hR qo hin c1;cases y with
 |false=>
  go_enter Tryz.func67,Tryz.ntmps67
  go_wp2_with fail
  go_end0
  exact⟨rfl,by rw[HM.out];exact Bt.alloc HB.out _,hK1⟩
 |true=>
  cases z with
  |true=>
   go_enter Tryz.func67,Tryz.ntmps67
   go_wp2_with
    (first
     |(go_at_call 66;refine all'.mono ?_;rintro e w2 ⟨rfl,hb2⟩
       have q0:=(hb2.cell (p:=⟨sx,0,none⟩) (World.block_lt_of_cell? _ _ hs1)).trans hs1;have q1:w2.cell? ⟨w.heap.size,1,none⟩=some (.slice qa Rt.length qc):=(hb2.cell (by simp)).trans (by simp[go_sem]);have hB2:Bt w2 B (bR (eZ N) (.slice aa N ac) (.slice (some ⟨bg,0,none⟩) N bc) vr gb) X:=Bt.below (Bt.alloc HB.out _) hb2;have hsz2:w.heap.size+1<=w2.heap.size:=by have:=hb2.size;simpa using this
       have names:=aaE (N:=N) (lc:=qc) hB2 (by omega) rfl rfl (HR1.out.below (hb2.mono (by simp;omega))) HI.out (by omega);have fC:Hid (Kept (bR (eZ N) (.slice aa N ac) (.slice (some ⟨bg,0,none⟩) N bc) vr gb).K w w2):=hK1.trans (Kept.iU hb2)
       clear hB2 hb2 all' hs1 hx1)
     |(go_at_call 68;refine names.mono ?_;rintro e w3 ⟨rfl,hB3,hK3⟩))
   go_end0
   exact⟨rfl,by rw[HM.out];exact hB3,fC.out.trans hK3⟩
  |false=>
   go_enter Tryz.func67,Tryz.ntmps67
   go_wp2_with
    (go_at_call 66;refine all'.mono ?_;rintro e w2 ⟨rfl,hb2⟩
     have HB2:Hid (Bt w2 B (bR (eZ N) (.slice aa N ac) (.slice (some ⟨bg,0,none⟩) N bc) vr gb) X):=Bt.below (Bt.alloc HB.out _) hb2;have fC:Hid (Kept (bR (eZ N) (.slice aa N ac) (.slice (some ⟨bg,0,none⟩) N bc) vr gb).K w w2):=hK1.trans (Kept.iU hb2)
     clear hb2 all' hs1 hx1)
   go_end0
   exact⟨rfl,by rw[HM.out];exact HB2.out,fC.out⟩
end
def qy(N:Nat)(Mk:List Bool):Vs
 | .a=>Mk
 | .b=>(List.replicate N false).set 0 (Mk.getD 0 false)
 | .gr=>[true]
 |_=>[]
structure IB(w w1:World)(B N g:Nat)(rv:Value)(Mk:List Bool)(wx:World):Prop where
 below:Below w1.heap.size w1 wx
 size:wx.heap.size=w1.heap.size+3
 rules:wx.cell? ⟨w.heap.size,2,none⟩=some rv
 oh:wx.cell? ⟨w1.heap.size,0,none⟩=some (.slice (some ⟨g,0,none⟩) N N)
 IE:wx.cell? ⟨w1.heap.size+2,0,none⟩=some (.slice (some ⟨w1.heap.size+1,0,none⟩) N N)
 IG:fO wx B (w1.heap.size+1) N ((List.replicate N false).set 0 (Mk.getD 0 false))
structure II(w w1:World)(B N g:Nat)(rv:Value)(wx:World):Prop where
 below:Below w1.heap.size w1 wx
 size:wx.heap.size=w1.heap.size+3
 rules:wx.cell? ⟨w.heap.size,2,none⟩=some rv
 oh:wx.cell? ⟨w1.heap.size,0,none⟩=some (.slice (some ⟨g,0,none⟩) N N)
 IE:wx.cell? ⟨w1.heap.size+2,0,none⟩=some (.slice (some ⟨w1.heap.size+1,0,none⟩) N N)
 IG:fO wx B (w1.heap.size+1) N (List.replicate N false)
theorem aaL{w w1:World}{B N g:Nat}{rv:Value}(hN:N<=maxLen)(hs:w.heap.size<w1.heap.size)(hB:B<=w1.heap.size)(hr:w1.cell? ⟨w.heap.size,2,none⟩=some rv):
 II w w1 B N g rv (((w1.alloc (.cells #[.slice (some ⟨g,0,none⟩) N N] 81)).alloc (.cells (madeCells #[.bool false] N) 4)).alloc (.cells #[.slice (some ⟨w1.heap.size+1,0,none⟩) N N] 81)):=by
 refine⟨(((Below.refl _ _).alloc (Nat.le_refl _) _).alloc (by simp) _).alloc (by simp;omega) _,by simp,?_,?_,?_,?_⟩
 ·rw[World.cell?_alloc_past _ _ _ (by simp;omega),World.cell?_alloc_past _ _ _ (by simp;omega),World.cell?_alloc_past _ _ _ hs];exact hr
 ·rw[World.cell?_alloc_past _ _ _ (by simp;omega),World.cell?_alloc_past _ _ _ (by simp)];simp[go_sem]
 ·have:w1.heap.size+2=((w1.alloc (.cells #[.slice (some ⟨g,0,none⟩) N N] 81)).alloc (.cells (madeCells #[.bool false] N) 4)).heap.size:=by simp
  rw[this];simp[go_sem]
 ·have:=Kl (w1.alloc (.cells #[.slice (some ⟨g,0,none⟩) N N] 81)) hN
  simp only[World.size_alloc]at this;exact jE (World.ownsRow.alloc this _) (by omega)
theorem II.ready{w w1 wx:World}{B N g:Nat}{rv:Value}(h:II w w1 B N g rv wx)(hs:w.heap.size<w1.heap.size)(Mk:List Bool):IB w w1 B N g rv Mk (wx.setCell ⟨w1.heap.size+1,0,none⟩ (.bool (Mk.getD 0 false))).drew:=by
 refine⟨(h.below.setCell (by simp) _).drew,by show (wx.setCell _ _).heap.size=_;simp;exact h.size,?_,?_,?_,?_⟩
 ·exact(dH (.inl (by simp only;omega))).trans h.rules
 ·exact(dH (.inl (by simp only;omega))).trans h.oh
 ·exact(dH (.inl (by simp only;omega))).trans h.IE
 ·exact h.IG.set 0 _
theorem aaM{w w1 wx:World}{B N g:Nat}{rv:Value}{Mk:List Bool}(h:fO w1 B g N Mk)(hr:IB w w1 B N g rv Mk wx)(hB:B<=wx.heap.size):Bt (wx.alloc (.cells #[.bool true] 4)) B (bR (eZ N) (.slice (some ⟨g,0,none⟩) N N) (.slice (some ⟨w1.heap.size+1,0,none⟩) N N) sV wx.heap.size) (qy N Mk):=by
 have h0:Bt w1 B (⟨fun _=> .slice (some ⟨g,0,none⟩) N N,fun| .a=>some N|_=>none⟩:dP Iv) (qy N Mk):=by
  refine⟨fun i r hr=> ?_,fun i j a b hij ha hb=> ?_⟩
  ·cases i<;>simp[dP.P]at hr
   subst hr;exact h
  ·cases i<;>simp[dP.P]at ha
   cases j<;>simp[dP.P]at hb;exact absurd rfl hij
 have h1:Bt wx B (bR (fun| .a=>some N| .b=>some N|_=>none) (.slice (some ⟨g,0,none⟩) N N) (.slice (some ⟨w1.heap.size+1,0,none⟩) N N) sV 0) (qy N Mk):=
  F3 .b h0 hr.below rfl hr.IG (fun b hb=>by simp only[bR,Value.ownBlock,Option.some.injEq]at hb;omega) (fun j hj m hm=>by cases j<;>simp_all [bR])
 refine F3 .gr h1 ((Below.refl _ _).alloc (Nat.le_refl _) _) rfl ?_ (fun b hb=> ?_) (fun j hj m hm=>by cases j<;>simp_all [bR,eZ])
 ·exact SF hB
 ·simp only[bR,Value.ownBlock,Option.some.injEq]at hb
  omega
theorem aaN{T N:Nat}{R:List Ru}(hf:cO T N R){Mk:List Bool}(hl:Mk.length=N)(hM:∀n,hasB Mk n↔eH N R n):sS .gr (eZ N) (ZC N R) (qy N Mk) R qx (qy N Mk):=by
 refine⟨fun i n hd=> ?_,fun i n m hd hm hb=> ?_,fun _ _ _ h=>h,fun hz=>by simp[bit,qy]at hz⟩
 ·cases i<;>simp[eZ]at hd<;>subst hd<;>simp[qy,hl]
 ·cases i<;>simp[eZ]at hd
  ·trivial
  ·subst hd
   exact(hM m).1 ⟨Int.natCast_nonneg _,by simpa [bit,qy] using hb⟩
  ·subst hd
   by_cases h0:m=0
   ·subst h0
    refine jo (Au hf _) _ (.inl ⟨rfl,(hM 0).1 ⟨Int.le_refl _,?_⟩⟩);simpa [bit,qy,List.getD,hm] using hb
   ·unfold bit qy at hb
    rw[List.getD,List.getElem?_set_ne (fun e:0=m=>h0 e.symm)]at hb;simp[hm]at hb
def Ew(N:Nat):List (Iv×Nat):=(List.range N).map (fun m=>(.a,m))++(List.range N).map fun m=>(.b,m)
theorem aaO(N:Nat):∀i n m,i≠Iv.gr->eZ N i=some n->m<n->(i,m)∈Ew N:=fun i n m hi hd hm=>by
 cases i<;>simp[eZ]at hd hi<;>subst hd<;>simp[Ew,hm]
theorem aaP(N:Nat):∀p∈Ew N,p.1≠Iv.gr:=fun p hp=>by
 simp only[Ew,List.mem_append,List.mem_map]at hp;rcases hp with⟨_,_,rfl⟩|⟨_,_,rfl⟩<;>simp
theorem aaQ{w:World}{T N:Nat}{rv:Value}{R:List Ru}(hr:aD w w.heap.size rv R)(hm:aZ T N R=true):
 Calls Tryz.prog 47 #[.agg #[.int .i64 T,.int .i64 N,rv]] w fun e w'=> ∃g Y,e= .returned (.tuple #[.slice (some ⟨g,0,none⟩) N N,.int .i64 0])/\Below w.heap.size w w'/\fO w' (w.heap.size+1) g N Y/\∀n,hasB Y n↔lK N R n:=by
 have hf:=zf hm;obtain⟨hT,hN1,hN,hRl,zh⟩:=kM hm;obtain⟨ra,rc,bW⟩:=hr.1;subst bW;have mk:=SG (T:=T) (N:=N) (hr.boxed (.cells #[.int .i64 T,.int .i64 N,.slice ra R.length rc] 24)) hm;simp only[World.size_alloc]at mk;have HR:Hid (aD w w.heap.size (.slice ra R.length rc) R):=hr;have HF:Hid (cO T N R):=hf;have HQ:Hid (∀q,q<R.length->(R.getD q (0,[])).2.length<=8):=fun q hq=>(zh q hq).2.2.1;have Bg:=Ad N (by omega);have hN0:0<N:=by omega
 clear hr hm hf zh
 go_enter Tryz.func47,Tryz.ntmps47
 go_upto_region 5 with
  (go_at_call 46;refine mk.mono ?_;rintro e w1 ⟨g,Mk,rfl,hB1,hrow,SH⟩
   have b1:w1.cell? ⟨w.heap.size,1,none⟩=some (.int .i64 N):=(hB1.cell (by simp)).trans (by simp[go_sem]);have b2:w1.cell? ⟨w.heap.size,2,none⟩=some (.slice ra R.length rc):=(hB1.cell (by simp)).trans (by simp[go_sem]);have hs1:w.heap.size+1<=w1.heap.size:=by have:=hB1.size;simpa using this
   have HX:Hid (Below w.heap.size w w1):=((Below.refl _ _).alloc (Nat.le_refl _) _).trans (hB1.mono (by simp));have m1:(w1.alloc (.cells #[.slice (some ⟨g,0,none⟩) N N] 81)).cell? ⟨w.heap.size,1,none⟩=some (.int .i64 N):=by rw[World.cell?_alloc_past _ _ _ (by omega)];exact b1
   have MK:Hid (fO w1 (w.heap.size+1+1) g N Mk):=hrow;have ML:Hid (∀n,hasB Mk n↔eH N R n):=SH;have c0:=(hrow.cell (m:=0) hN0).1
   clear hB1 mk hrow SH)
 have hW:=aaL (w:=w) (w1:=w1) (B:=w.heap.size+1+1) (N:=N) (g:=g) (rv:= .slice ra R.length rc) (by unfold maxLen;omega) (by omega) (by have:=MK.out.ge (by omega);have:=World.block_lt_of_cell? w1 _ c0;simp only at this;omega) b2;generalize (((w1.alloc (.cells #[.slice (some ⟨g,0,none⟩) N N] 81)).alloc (.cells (madeCells #[.bool false] N) 4)).alloc (.cells #[.slice (some ⟨w1.heap.size+1,0,none⟩) N N] 81))=W0 at hW⊢;have hgl:=World.block_lt_of_cell? w1 _ c0;simp only at hgl;have d0:W0.cell? ⟨g,0,none⟩=some (.bool (Mk.getD 0 false)):=(hW.below.cell (p:=⟨g,0,none⟩) hgl).trans c0;have d1:=hW.oh;have d2:W0.cell? ⟨w1.heap.size+1+1,0,none⟩=_:=hW.IE;obtain⟨d3,d4⟩:=hW.IG.cell (m:=0) hN0;have HW:Hid (II w w1 (w.heap.size+1+1) N g (.slice ra R.length rc) W0):=hW;obtain⟨x,hx⟩:∃x,Mk.getD 0 false=x:=⟨_,rfl⟩;have HXx:Hid (Mk.getD 0 false=x):=hx;rw[hx]at d0;have j1:(0:Int)<(N:Int):=by omega
 clear hW m1 b1 b2 c0 Bg hx
 go_cut [] from 18 to 27 (fun wx=>IB w w1 (w.heap.size+1+1) N g (.slice ra R.length rc) Mk wx)
 case first=>
  refine yB 5 (by kernel_rfl) (by kernel_rfl) ?_;simp only[List.take_succ_cons,List.take_zero,List.drop_succ_cons,List.drop_zero]
  repeat still_step
  refine wpStill_nil ?_
  go_wp2_with fail
  go_meet
  case rel=>have:=HW.out.ready (by omega) Mk;rw[HXx.out]at this;exact this
 case rest=>
  have r2:=hcut.rules;have HC:Hid (IB w w1 (w.heap.size+1+1) N g (.slice ra R.length rc) Mk wc):=hcut;clear hcut d0 d1 d2 d3 d4
  go_wp2_with
   (go_at_call 51
    have hsz:=HC.out.size;have lU:=aaM MK.out HC.out (by omega);have zi:Below w1.heap.size w1 (wc.alloc (.cells #[.bool true] 4)):=HC.out.below.alloc (by omega) _;have kE:aD (wc.alloc (.cells #[.bool true] 4)) (w.heap.size+1+1) (.slice ra R.length rc) R:=((HR.out.below HX.out).below (zi.mono (by omega))).mono (by omega);have nP:¬(bR (eZ N) (.slice (some ⟨g,0,none⟩) N N) (.slice (some ⟨w1.heap.size+1,0,none⟩) N N) sV wc.heap.size).K (w1.heap.size+2):=bR.iV fun i n hd=>by cases i<;>simp[eZ]at hd<;>simp[bR,Value.ownBlock]<;>omega
    have Bh:¬(bR (eZ N) (.slice (some ⟨g,0,none⟩) N N) (.slice (some ⟨w1.heap.size+1,0,none⟩) N N) sV wc.heap.size).K w1.heap.size:=bR.iV fun i n hd=>by cases i<;>simp[eZ]at hd<;>simp[bR,Value.ownBlock]<;>omega
    have hsv:(wc.alloc (.cells #[.bool true] 4)).cell? ⟨w1.heap.size+2,0,none⟩=some (.slice (some ⟨w1.heap.size+1,0,none⟩) N N):=(World.cell?_alloc_past _ _ _ (by omega)).trans HC.out.IE;have hxv:(wc.alloc (.cells #[.bool true] 4)).cell? ⟨w1.heap.size,0,none⟩=some (.slice (some ⟨g,0,none⟩) N N):=(World.cell?_alloc_past _ _ _ (by omega)).trans HC.out.oh
    refine(MC (c:=bR (eZ N) (.slice (some ⟨g,0,none⟩) N N) (.slice (some ⟨w1.heap.size+1,0,none⟩) N N) sV wc.heap.size) (gr:=Iv.gr) (B:=w.heap.size+1+1) (X:=qy N Mk) (R:=R) (f:=qx) (Head:=sS .gr (eZ N) (ZC N R) (qy N Mk) R qx) (mD:=Et .gr (Ew N))
     lU (by omega) (IA rfl) kE (by omega) (fun k hk w2 Y qa qc hK MJ Ev hqc=> ?_) (fun args w=>by simp[callFunc,Tryz.func67,Tryz.f67 ]) (aaN HF.out MK.out.len ML.out)
     (sS.next rfl (aaO N) (aaP N) (fun _=>trivial) (fun q hq Y hY=>(SC HF.out (jV hq) hY).1) (fun q hq Y hY hs=>aaC HF.out (jV hq) hY hs))).mono ?_
    ·have e:∀a b c d:Value,#[a,b]++ #[c,d]= #[a,b,c,d]:=fun a b c d=>by simp
     rw[e];have hs:=hK.size;simp only[World.size_alloc]at hs;exact aaK MJ (by omega) (hK.cell nP hsv) nP (hK.cell Bh hxv) Bh HF.out (jV hk) (HQ.out k hk) Ev
    rintro e w3 ⟨rfl,Y,hH,hg,hB3,hK3⟩;have n0:w3.cell? ⟨w1.heap.size+1+1,0,none⟩=_:=hK3.cell nP hsv;have HB3:Hid (Bt w3 (w.heap.size+1+1) (bR (eZ N) (.slice (some ⟨g,0,none⟩) N N) (.slice (some ⟨w1.heap.size+1,0,none⟩) N N) sV wc.heap.size) Y):=hB3
    have HL:Hid (∀n,hasB (Y .b) n↔lK N R n):=aaD HF.out (fun n hn=>(ML.out n).2 hn) (fun h0=>by
     have:=((ML.out 0).2 h0).2
     simpa [bit,qy,List.getD,hN0] using this) hH hg
    have HB:Hid (Below w.heap.size w w3):=HX.out.trans ((zi.mono (by omega)).trans ((hK3.below (fun b hb=>Bt.ge hB3 hb) (by simp;omega)).mono (by omega)))
    clear lU zi kE nP Bh hsv hxv hH hg hB3 hK3)
  refine bodyPost_ret (v:= .tuple #[.slice (some ⟨w1.heap.size+1,0,none⟩) N N,.int .i64 0]) (by simp[results,Tryz.results47,go_sem]) rfl ⟨w1.heap.size+1,Y .b,rfl,HB.out,jE (Bt.own (i:=Iv.b) HB3.out rfl) (by omega),HL.out⟩
end Go.Proofs.YtpkmpkphfflpjaaGreat
