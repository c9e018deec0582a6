import Derived.Test.YthbifaoaiggooaaGreatDoorq19
set_option maxHeartbeats 3200000
set_option maxRecDepth 100000
namespace Go.Proofs.YthbifaoaiggooaaGreatDoor
open Go.RowKit
theorem ag6{w:World}{mb g N B:Nat}{Y:List Bool}{t:Bool}{v:Int}(hm:w.cell? ⟨mb,0,none⟩=some (.slice (some ⟨g,0,none⟩) N N))(hY:gY w B g N Y)(hv:t=false->0<=v/\v<(N:Int)):
 Calls Tryz.prog 164 #[.agg #[.bool t,.int .i64 v],.pointer (some ⟨mb,0,none⟩)] w λe w'=>e= .returned (.bool (!(t||Y.getD v.toNat false)))/\Below w.heap.size w w':=by
 obtain⟨W1,hW1⟩:=af (w.alloc (.cells #[.bool t,.int .i64 v] 121));have hB1:Below w.heap.size w W1:=by rw[<-hW1];exact(ai _ _).alloc (ah _) _
 have d0:W1.cell? ⟨w.heap.size,0,none⟩=some (.bool t):=by rw[<-hW1];exact aM (heap_alloc_new _ _) rfl
 have d1:W1.cell? ⟨w.heap.size,1,none⟩=some (.int .i64 v):=by rw[<-hW1];exact aM (heap_alloc_new _ _) rfl
 have m1:=(hB1.cell (aQ _ _ hm)).trans hm;have HB:Hid (Below w.heap.size w W1):=hB1;have Fp:=hY.below hB1;clear hB1 hY hm;cases t with
 |true=>
  clear Fp hv
  go_enter Tryz.func164,Tryz.ntmps164
  go_wp2_with fail
  go_ret;exact⟨rfl,HB.out⟩
 |false=>
  obtain⟨i0,i1⟩:=hv rfl;obtain⟨q,rfl⟩:∃q:Nat,v=q:=⟨v.toNat,by omega⟩;have c1:=(Fp.cell (m:=q) (by omega)).1;rw[Int.toNat_natCast];obtain⟨y,hy⟩:=af (Y.getD q false);rw[hy]at c1⊢;clear Fp hy hv
  go_enter Tryz.func164,Tryz.ntmps164
  go_wp2_with fail
  go_ret;exact⟨rfl,HB.out⟩
theorem ag7{w:World}{mb g N B:Nat}{Y:List Bool}{lv:Value}{l:List Sy}(hl:dh w lv l)(hs:l.length<=1000)(hm:w.cell? ⟨mb,0,none⟩=some (.slice (some ⟨g,0,none⟩) N N))(hY:gY w B g N Y)(hv:∀j,j<l.length->(l.getD j (false,0)).1=false->0<=(l.getD j (false,0)).2/\(l.getD j (false,0)).2<(N:Int)):
 Calls Tryz.prog 181 #[lv,.func (.func 164) #[] #[.pointer (some ⟨mb,0,none⟩)]] w λe w'=>(∃r:Int,e= .returned (.int .i64 r)/\(0<=r↔fF Y l=false))/\Below w.heap.size w w':=by
 obtain⟨la,lc,hlv,_⟩:=hl.1;subst hlv;have HL:Hid (dh w (.slice la l.length lc) l):=hl;have HM:Hid (w.cell? ⟨mb,0,none⟩=some (.slice (some ⟨g,0,none⟩) N N)/\gY w B g N Y):=⟨hm,hY⟩;have HV:Hid (∀j,j<l.length->(l.getD j (false,0)).1=false->0<=(l.getD j (false,0)).2/\(l.getD j (false,0)).2<(N:Int)):=hv;clear hl hm hY hv
 go_enter Tryz.func181,Tryz.ntmps181
 go_wp2_with fail
 go_loopw [8] (λs8 wr=> ∃k:Nat,s8= .int .i64 k/\k<=l.length/\fF Y (l.take k)=true/\Below w.heap.size w wr) (λs _=>l.length-(intOf s).toNat)
 case atStart=>exact⟨0,rfl,aP _,rfl,ai _ _⟩
 case round=>
  obtain⟨k,rfl,hk,hall,hB⟩:=hrel;have HB:Hid (Below w.heap.size w wr):=hB;have HA:Hid (fF Y (l.take k)=true):=hall;by_cases hlt:k<l.length
  ·obtain⟨b,o,c,hv,c1,c2⟩:=(HL.out.same (ko hB)).2 k hlt
   cases hv;have hvk:=HV.out k hlt;have hat:=YQ Y l k hlt;obtain⟨⟨t,v⟩,hx⟩:=af (l.getD k (false,0));rw[hx]at c1 c2 hvk hat;simp only at c1 c2 hvk hat;rw[HA.out,wN]at hat;have mn:=ag6 (w:=wr) (t:=t) (v:=v) ((hB.cell (aQ _ _ HM.out.1)).trans HM.out.1) (HM.out.2.below hB) hvk;obtain⟨y,hy⟩:=af ((t||Y.getD v.toNat false));rw[hy]at mn hat;have HT:Hid (fF Y (l.take (k+1))=y):=hat;have i0:(0:Int)<=(k:Int):=aF _;have i1:(k:Int)<(l.length:Int):=by omega
   clear hx hvk hat hB hall hy;cases y with
   |true=>
    go_wp2_with (go_at_call 164;refine mn.mono ?_;rintro e w2 ⟨rfl,hB2⟩;clear mn)
    go_roundw
    case rel=>exact⟨k+1,by go_num,by omega,HT.out,HB.out.trans (hB2.mono HB.out.size)⟩
    case measure=>simp[intOf];omega
   |false=>
    go_wp2_with (go_at_call 164;refine mn.mono ?_;rintro e w2 ⟨rfl,hB2⟩;clear mn)
    go_ret;refine⟨⟨k,rfl,λ_=> ?_,λ_=>i0⟩,HB.out.trans (hB2.mono HB.out.size)⟩;cases h:fF Y l with
    |false=>rfl
    |true=>
     have h2:=HT.out;unfold fF at h h2;rw[qO]at h
     have:((l.take (k+1)).all λs=>s.1||Y.getD s.2.toNat false)=true:=by
      rw[qO];exact λx hx=>h x (wR hx)
     rw[this]at h2;cases h2
  ·have hkk:k=l.length:=by omega
   clear hB hall
   go_wp2_with fail
   go_ret;have h:=HA.out;rw[hkk,gH]at h;exact⟨⟨-1,rfl,λh=>by omega,λh'=>by rw[h]at h';cases h'⟩,HB.out⟩
theorem ag8{w:World}{mb g N B:Nat}{Y:List Bool}{lv:Value}{l:List Sy}(hl:dh w lv l)(hs:l.length<=1000)(hm:w.cell? ⟨mb,0,none⟩=some (.slice (some ⟨g,0,none⟩) N N))(hY:gY w B g N Y)(hv:∀j,j<l.length->(l.getD j (false,0)).1=false->0<=(l.getD j (false,0)).2/\(l.getD j (false,0)).2<(N:Int)):
 Calls Tryz.prog 165 #[lv,.func (.func 164) #[] #[.pointer (some ⟨mb,0,none⟩)]] w λe w'=>e= .returned (.bool (!fF Y l))/\Below w.heap.size w w':=by
 have ix:=ag7 hl hs hm hY hv;clear hl hs hm hY hv;cases hA:fF Y l with
 |false=>
  go_enter Tryz.func165,Tryz.ntmps165
  go_wp2_with (go_at_call 181;refine ix.mono ?_;rintro e w1 ⟨⟨r,rfl,hr⟩,hB⟩;have h0:0<=r:=hr.2 hA;clear hr)
  go_ret;exact⟨rfl,hB⟩
 |true=>
  go_enter Tryz.func165,Tryz.ntmps165
  go_wp2_with (go_at_call 181;refine ix.mono ?_;rintro e w1 ⟨⟨r,rfl,hr⟩,hB⟩;have h0:decide (0<=r)=false:=aU (λh=>by rw[hr.1 h]at hA;cases hA);clear hr)
  go_ret;exact⟨rfl,hB⟩
end Go.Proofs.YthbifaoaiggooaaGreatDoor
namespace Go.Proofs.YthbifaoaiggooaaGreatDoor
section
variable{ι:Type}
def nY(dom:ι->Option Nat)(X:ι->List Bool):Prop:=∀i n,dom i=some n->(X i).length=n
structure nH(gr:ι)(dom:ι->Option Nat)(X Y:ι->List Bool):Prop where
 dw:nY dom Y
 up:∀i m,bit X i m=true->bit Y i m=true
 still:bit Y gr 0=false->Y=X
 grew:bit X gr 0=false->bit Y gr 0=true->∃i m n,i≠gr/\dom i=some n/\m<n/\bit X i m=false/\bit Y i m=true
def sj(dom:ι->Option Nat)(Z:ι->Nat->Prop)(X:ι->List Bool):Prop:=∀i n m,dom i=some n->m<n->bit X i m=true->Z i m
variable{gr:ι}{dom:ι->Option Nat}{Z:ι->Nat->Prop}
theorem nH.refl{X:ι->List Bool}(h:nY dom X):nH gr dom X X:=⟨h,λ_ _ h=>h,λ_=>rfl,λh1 h2=>by rw[h1]at h2;cases h2⟩
theorem nH.trans{X Y W:ι->List Bool}(h:nH gr dom X Y)(k:nH gr dom Y W):nH gr dom X W:=
 ⟨k.dw,λi m hm=>k.up i m (h.up i m hm),λhz=>by
   have e:=k.still hz;rw[e]at hz⊢;exact h.still hz,λh1 h2=>by
   cases hy:bit Y gr 0 with
   |true=>
    obtain⟨i,m,n,a1,a2,a3,a4,a5⟩:=h.grew h1 hy;exact⟨i,m,n,a1,a2,a3,a4,k.up i m a5⟩
   |false=>
    obtain⟨i,m,n,a1,a2,a3,a4,a5⟩:=k.grew hy h2;rw[h.still hy]at a4
    exact⟨i,m,n,a1,a2,a3,a4,a5⟩⟩
variable[DecidableEq ι]
theorem Zt(hgr:dom gr=some 1){X:ι->List Bool}{i:ι}{n m:Nat}(h:nY dom X)(hd:dom i=some n)(hm:m<n)(hi:i≠gr):nH gr dom X (jv gr X i m)/\bit (jv gr X i m) i m=true:=by
 have hl:=h i n hd;have hg:=h gr 1 hgr;cases hb:bit X i m with
 |true=>
  have e:jv gr X i m=X:=by simp[jv,hb]
  rw[e];exact⟨nH.refl h,hb⟩
 |false=>
  have e:jv gr X i m=bH (bH X i m true) gr 0 true:=by simp[jv,hb]
  rw[e];have hg':0<(bH X i m true gr).length:=by rw[vw];omega
  refine⟨⟨λj k hj=> ?_,λj q hq=> ?_,λhz=> ?_,λ_ _=> ?_⟩,?_⟩
  ·rw[vw,vw];exact h j k hj
  ·rw[jE hg',jE (by omega)]
   split
   ·rfl
   ·split
    ·rfl
    ·exact hq
  ·rw[jE hg']at hz
   simp at hz
  ·refine⟨i,m,n,hi,hd,hm,hb,?_⟩
   rw[jE hg',jE (by omega)];simp
  ·rw[jE hg',jE (by omega)]
   simp
theorem Zu(hgr:dom gr=some 1)(hZ:∀m,Z gr m){X:ι->List Bool}{i:ι}{n m:Nat}(h:nY dom X)(hd:dom i=some n)(hm:m<n)(hs:sj dom Z X)(hz:Z i m):sj dom Z (jv gr X i m):=by
 have hl:=h i n hd;have hg:=h gr 1 hgr;cases hb:bit X i m with
 |true=>
  have e:jv gr X i m=X:=by simp[jv,hb]
  rw[e];exact hs
 |false=>
  have e:jv gr X i m=bH (bH X i m true) gr 0 true:=by simp[jv,hb]
  rw[e];have hg':0<(bH X i m true gr).length:=by rw[vw];omega
  intro j k q hj hq hbq;rw[jE hg',jE (by omega)]at hbq;by_cases c1:j=gr/\q=0
  ·rw[c1.1];exact hZ q
  ·rw[aj c1]at hbq
   by_cases c2:j=i/\q=m
   ·rw[c2.1,c2.2];exact hz
   ·rw[aj c2]at hbq
    exact hs j k q hj hq hbq
omit [DecidableEq ι] in
theorem Ri{n:Nat}{f:Nat->(ι->List Bool)->ι->List Bool}(hf:∀k,k<n->∀Y,nY dom Y->nH gr dom Y (f k Y)){X:ι->List Bool}(h:nY dom X):nH gr dom X (bf n f X)/\
 (bit (bf n f X) gr 0=false->∀k,k<n->bit (f k X) gr 0=false):=by
 induction n with
 |zero=>exact⟨nH.refl h,λ_ k hk=>absurd hk (iI _)⟩
 |succ n ih=>
  obtain⟨h1,h2⟩:=ih λk hk=>hf k (by omega);have h3:=hf n (by omega) _ h1.dw;refine⟨h1.trans h3,λhz k hk=> ?_⟩;have hz':bit (f n (bf n f X)) gr 0=false:=hz;have e1:=h3.still hz';have hz1:bit (bf n f X) gr 0=false:=by rw[<-e1];exact hz'
  rcases fJ.1 hk with hk|rfl
  ·exact h2 hz1 k hk
  ·rw[h1.still hz1]at hz'
   exact hz'
omit [DecidableEq ι] in
theorem Zv{n:Nat}{f:Nat->(ι->List Bool)->ι->List Bool}(hf:∀k,k<n->∀Y,nY dom Y->nH gr dom Y (f k Y))(hg:∀k,k<n->∀Y,nY dom Y->sj dom Z Y->sj dom Z (f k Y)){X:ι->List Bool}(h:nY dom X)(hs:sj dom Z X):sj dom Z (bf n f X):=by
 induction n with
 |zero=>exact hs
 |succ n ih=>
  have h1:=(Ri (n:=n) (f:=f) (λk hk=>hf k (by omega)) h).1;exact hg n (by omega) _ h1.dw (ih (λk hk=>hf k (by omega)) λk hk=>hg k (by omega))
structure wE(gr:ι)(dom:ι->Option Nat)(Z:ι->Nat->Prop)(X0:ι->List Bool)(R:List Ru)(f:Ru->(ι->List Bool)->ι->List Bool)(X:ι->List Bool):Prop where
 dw:nY dom X
 snd:sj dom Z X
 up:∀i m,i≠gr->bit X0 i m=true->bit X i m=true
 held:bit X gr 0=false->∀q,q<R.length->bit (f (R.getD q (0,[])) X) gr 0=false
def Jl(gr:ι)(wF:List (ι×Nat))(X:ι->List Bool):Nat:=2*(wF.filter λp=> !bit X p.1 p.2).length+if bit X gr 0 then 1 else 0
theorem wE.next{X0:ι->List Bool}{R:List Ru}{f:Ru->(ι->List Bool)->ι->List Bool}{wF:List (ι×Nat)}(hgr:dom gr=some 1)(hin:∀i n m,i≠gr->dom i=some n->m<n->(i,m)∈wF)(hno:∀p∈wF,p.1≠gr)(hZ:∀m,Z gr m)
 (hf:∀q,q<R.length->∀Y,nY dom Y->nH gr dom Y (f (R.getD q (0,[])) Y)) (hs:∀q,q<R.length->∀Y,nY dom Y->sj dom Z Y->sj dom Z (f (R.getD q (0,[])) Y))
 (X:ι->List Bool) (h:wE gr dom Z X0 R f X) (hg:bit X gr 0=true):
 wE gr dom Z X0 R f (oW R f R.length (bH X gr 0 false))/\Jl gr wF (oW R f R.length (bH X gr 0 false))<Jl gr wF X:=by
 have hl:=h.dw gr 1 hgr;have s1:nY dom (bH X gr 0 false):=λi n hd=>by rw[vw];exact h.dw i n hd
 have n1:sj dom Z (bH X gr 0 false):=λi n m hd hm hb=>by
  rw[jE (by omega)]at hb;by_cases c:i=gr/\m=0
  ·rw[c.1];exact hZ m
  ·rw[aj c]at hb;exact h.snd i n m hd hm hb
 have g1:bit (bH X gr 0 false) gr 0=false:=by rw[jE (by omega)];simp
 have f1:∀i m,i≠gr->bit (bH X gr 0 false) i m=bit X i m:=λi m hi=>by rw[jE (by omega),aj (λe=>hi e.1)]
 obtain⟨u1,u2⟩:=Ri (n:=R.length) (f:=λq=>f (R.getD q (0,[]))) hf s1;have e0:oW R f R.length (bH X gr 0 false)=bf R.length (λq=>f (R.getD q (0,[]))) (bH X gr 0 false):=rfl;rw[<-e0]at u1 u2;refine⟨⟨u1.dw,Zv hf hs s1 n1,λi m hi hb=>u1.up _ _ (by rw[f1 i m hi];exact h.up i m hi hb),λhz=> ?_⟩,?_⟩
 ·rw[u1.still hz];exact u2 hz
 ·have e:(wF.filter λp=> !bit (bH X gr 0 false) p.1 p.2)=wF.filter λp=> !bit X p.1 p.2:=List.filter_congr λp hp=>by rw[f1 _ _ (hno p hp)]
  unfold Jl;rw[hg];cases hz:bit (oW R f R.length (bH X gr 0 false)) gr 0 with
  |true=>
   have:(wF.filter λp=> !bit (oW R f R.length (bH X gr 0 false)) p.1 p.2).length<(wF.filter λp=> !bit (bH X gr 0 false) p.1 p.2).length:=by
    obtain⟨i,m,n,a1,a2,a3,a4,a5⟩:=u1.grew g1 hz;refine(filter_lt _ _ (λp hp=> ?_) wF).2 ⟨(i,m),hin i n m a1 a2 a3,by simp[a4],by simp[a5]⟩;cases hb:bit (bH X gr 0 false) p.1 p.2 with
    |false=>rfl
    |true=>simp[u1.up _ _ hb]at hp
   rw[e]at this;simp only[bQ];omega
  |false=>rw[u1.still hz,e];simp only[bQ,dO,bN];omega
end
inductive Iv where
 |gr|a|b
 |r (n:Nat)
 deriving DecidableEq
abbrev Vs:=Iv->List Bool
def um(r:Ru)(X:Vs):Vs:=if fF (X .a) r.2 then jv .gr X .a r.1.toNat else X
def ve(l:List Sy)(k:Nat)(Y:Vs):Vs:=if (l.getD k (false,0)).1 then Y else jv .gr Y .b (l.getD k (false,0)).2.toNat
def Rj(l:List Sy)(X:Vs):Vs:=bf l.length (ve l) X
def uq(r:Ru)(X:Vs):Vs:=if bit X .b r.1.toNat&&fF (X .a) r.2 then Rj r.2 X else X
def iG(N:Nat):Iv->Option Nat
 | .gr=>some 1
 | .a=>some N
 | .b=>none
 | .r _=>none
def gD(N:Nat):Iv->Option Nat
 | .gr=>some 1
 | .a=>some N
 | .b=>some N
 | .r _=>none
section
variable{T N:Nat}{R:List Ru}
def ZM(N:Nat)(R:List Ru):Iv->Nat->Prop
 | .a,m=>jA N R m
 |_,_=>True
theorem Zw{r:Ru}(hL:0<=r.1/\r.1<(N:Int)){X:Vs}(h:nY (iG N) X):nH .gr (iG N) X (um r X)/\(bit (um r X) .gr 0=false->fF (X .a) r.2=true->bit X .a r.1.toNat=true):=by
 unfold um;cases hb:fF (X .a) r.2 with
 |true=>
  simp only[bQ];obtain⟨p1,p2⟩:=Zt (gr:=Iv.gr) (dom:=iG N) (i:= .a) (n:=N) (m:=r.1.toNat) rfl h rfl (by omega) (by simp);exact⟨p1,λhz _=>by rw[p1.still hz]at p2;exact p2⟩
 |false=>exact⟨by simpa using nH.refl h,λ_ h=>by cases h⟩
theorem ag9(hf:dD T N R){r:Ru}(hr:r∈R){X:Vs}(h:nY (iG N) X)(hs:sj (iG N) (ZM N R) X):sj (iG N) (ZM N R) (um r X):=by
 have hL:=hf.left r hr;unfold um;cases hb:fF (X .a) r.2 with
 |true=>
  simp only[bQ];refine Zu (gr:=Iv.gr) (i:= .a) (n:=N) rfl (λ_=>trivial) h rfl (by omega) hs ?_;show jA N R _;rw[wD hL.1];refine oG (Zi hf) _ ⟨r,hr,rfl,λs hsr hsb=> ?_⟩;have hn:=hf.name r hr s hsr hsb;have:=(BF (λs hs hb=>(hf.name r hr s hs hb).1)).1 hb s hsr hsb;have:=hs .a N s.2.toNat rfl (by omega) this.2;have:jA N R (s.2.toNat:Nat):=this
  rwa [wD hn.1]at this
 |false=>simpa using hs
theorem aha(hf:dD T N R){X0 X:Vs}(h:wE .gr (iG N) (ZM N R) X0 R um X)(hg:bit X .gr 0=false):∀n,hasB (X .a) n↔jA N R n:=by
 have hl:=h.dw .a N rfl;refine λn=>⟨λhn=> ?_,λhn=> ?_⟩
 ·have hb:bit X .a n.toNat=true:=hn.2
  have:=h.snd .a N n.toNat rfl (by have:=Nz hb;omega) hb;have:jA N R (n.toNat:Nat):=this
  rwa [wD hn.1]at this
 ·refine F7 (Zg R) (A:=hasB (X .a)) (λn hn=> ?_) N n hn
  obtain⟨r,hr,rfl,ha⟩:=hn;obtain⟨q,hq,rfl⟩:=Ji hr;have hL:=hf.left _ hr;exact⟨hL.1,(Zw hL h.dw).2 (h.held hg q hq) ((BF (λs hs hb=>(hf.name _ hr s hs hb).1)).2 ha)⟩
def ZC(N:Nat)(R:List Ru):Iv->Nat->Prop
 | .a,m=>jA N R m
 | .b,m=>si N R m
 |_,_=>True
theorem Rk{l:List Sy}(hin:∀s∈l,s.1=false->0<=s.2/\s.2<(N:Int)){k:Nat}(hk:k<l.length){X:Vs}(h:nY (gD N) X):nH .gr (gD N) X (ve l k X)/\((l.getD k (false,0)).1=false->bit (ve l k X) .b (l.getD k (false,0)).2.toNat=true):=by
 have hm:l.getD k (false,0)∈l:=by simp[List.getD,hk]
 unfold ve;cases hb:(l.getD k (false,0)).1 with
 |true=>exact⟨by simpa using nH.refl h,λh=>by cases h⟩
 |false=>
  have:=hin _ hm hb;simp only[dO,bN];obtain⟨p1,p2⟩:=Zt (gr:=Iv.gr) (dom:=gD N) (i:= .b) (n:=N) (m:=(l.getD k (false,0)).2.toNat) rfl h rfl (by omega) (by simp);exact⟨p1,λ_=>p2⟩
theorem Zx(hf:dD T N R){r:Ru}(hr:r∈R){X:Vs}(h:nY (gD N) X):nH .gr (gD N) X (uq r X)/\
 (bit (uq r X) .gr 0=false->bit X .b r.1.toNat=true->fF (X .a) r.2=true->∀n:Int,(false,n)∈r.2->bit X .b n.toNat=true):=by
 unfold uq;cases hb:(bit X .b r.1.toNat&&fF (X .a) r.2) with
 |true=>
  simp only[bQ];obtain⟨u1,u2⟩:=Ri (gr:=Iv.gr) (dom:=gD N) (n:=r.2.length) (f:=ve r.2) (λk hk Y hY=>(Rk (hf.name r hr) hk hY).1) h;refine⟨u1,λhz _ _ n hn=> ?_⟩;obtain⟨k,hk,he⟩:=kE hn;have hz1:=u2 hz k hk;obtain⟨v1,v2⟩:=Rk (hf.name r hr) hk h;have e:r.2.getD k (false,0)=(false,n):=by simp[List.getD,hk,he]
  rw[e]at v2;have:=v2 rfl
  rwa [v1.still hz1]at this
 |false=>
  refine⟨by simpa using nH.refl h,λ_ h1 h2=> ?_⟩;rw[h1,h2]at hb;cases hb
theorem ahb(hf:dD T N R){r:Ru}(hr:r∈R){X:Vs}(h:nY (gD N) X)(hs:sj (gD N) (ZC N R) X):sj (gD N) (ZC N R) (uq r X):=by
 have hL:=hf.left r hr;unfold uq;cases hb:(bit X .b r.1.toNat&&fF (X .a) r.2) with
 |true=>
  simp only[bQ];simp only[bG]at hb
  have hc:si N R r.1:=by
   have:si N R (r.1.toNat:Nat):=hs .b N r.1.toNat rfl (by omega) hb.1
   rwa [wD hL.1]at this
  have ha:wC (jA N R) r.2:=λs hsr hsb=>by
   have hn:=hf.name r hr s hsr hsb;have:=(BF (λs hs hb=>(hf.name r hr s hs hb).1)).1 hb.2 s hsr hsb;have:jA N R (s.2.toNat:Nat):=hs .a N s.2.toNat rfl (by omega) this.2
   rwa [wD hn.1]at this
  refine Zv (gr:=Iv.gr) (λk hk Y hY=>(Rk (hf.name r hr) hk hY).1) (λk hk Y hY LG=> ?_) h hs;have hm:r.2.getD k (false,0)∈r.2:=by simp[List.getD,hk]
  unfold ve;obtain⟨⟨x,v⟩,hx⟩:=af (r.2.getD k (false,0));rw[hx]at hm⊢;cases x with
  |true=>simpa using LG
  |false=>
   have hn:=hf.name r hr _ hm rfl;simp only[dO,bN];simp only at hn;refine Zu (gr:=Iv.gr) (i:= .b) (n:=N) rfl (λ_=>trivial) hY rfl (by omega) LG ?_;show si N R _;rw[wD hn.1];exact oG (Rc hf _) _ (.inr ⟨r,hr,hm,ha,hc⟩)
 |false=>simpa using hs
theorem ahc(hf:dD T N R){X0 X:Vs}(h0:∀n,jA N R n->hasB (X0 .a) n)(h1:jA N R 0->bit X0 .b 0=true)(h:wE .gr (gD N) (ZC N R) X0 R uq X)(hg:bit X .gr 0=false):∀n,hasB (X .b) n↔si N R n:=by
 have hl:=h.dw .b N rfl;have hA:∀n,jA N R n->hasB (X .a) n:=λn hn=>⟨(h0 n hn).1,h.up .a _ (by simp) (h0 n hn).2⟩;refine λn=>⟨λhn=> ?_,λhn=> ?_⟩
 ·have hb:bit X .b n.toNat=true:=hn.2
  have:si N R (n.toNat:Nat):=h.snd .b N n.toNat rfl (by have:=Nz hb;omega) hb
  rwa [wD hn.1]at this
 ·refine F7 (Zh R (jA N R)) (A:=hasB (X .b)) (λn hn=> ?_) N n hn
  rcases hn with⟨rfl,hm⟩|⟨r,hr,hmem,ha,hc⟩
  ·exact⟨su _,h.up .b 0 (by simp) (h1 hm)⟩
  ·obtain⟨q,hq,rfl⟩:=Ji hr
   exact⟨(hf.name _ hr _ hmem rfl).1,(Zx hf hr h.dw).2 (h.held hg q hq) hc.2 ((BF (λs hs hb=>(hf.name _ hr s hs hb).1)).2 (ha.mono hA)) n hmem⟩
end
end Go.Proofs.YthbifaoaiggooaaGreatDoor
namespace Go.Proofs.YthbifaoaiggooaaGreatDoor
open Go.RowKit
def bT(dom:Iv->Option Nat)(va vb:Value)(vr:Nat->Value)(gb:Nat):eP Iv:=⟨λ| .gr=> .slice (some ⟨gb,0,none⟩) 1 1| .a=>va| .b=>vb| .r n=>vr n,dom⟩
theorem MN{dom:Iv->Option Nat}{va vb:Value}{vr:Nat->Value}{gb:Nat}(h:dom .gr=some 1):Mark (bT dom va vb vr gb) .gr gb:=⟨rfl,h⟩
theorem Zy{ι:Type}{c:eP ι}{w:World}{B N lc:Nat}{la:Option Addr}{i:ι}{X:ι->List Bool}{l:List Sy}(h:Bt w B c X)(hB:B<=w.heap.size)(hd:c.dom i=some N)(hl:iy w B la l)(hin:∀s∈l,s.1=false->0<=s.2/\s.2<(N:Int))(h8:l.length<=1000):
 Calls Tryz.prog 178 #[c.V i,.slice la l.length lc] w λe w'=>e= .returned (.bool (fF (X i) l))/\Below w.heap.size w w':=by
 obtain⟨va,vc,hv⟩:=Bt.slice h hd;have HB:Hid (Bt w B c X):=h;have HV:Hid (c.V i= .slice va N vc):=hv;have HL:Hid (iy w B la l):=hl;have HI:Hid (∀s∈l,s.1=false->0<=s.2/\s.2<(N:Int)):=hin;rw[hv];clear h hv hl hin
 go_enter Tryz.func178,Tryz.ntmps178
 go_wp2_with fail
 go_loopw [9] (λs wr=> ∃k:Nat,s= .int .i64 k/\k<=l.length/\fF (X i) (l.take k)=true/\Below w.heap.size w wr) (λs _=>l.length-(intOf s).toNat)
 case atStart=>exact⟨0,rfl,aP _,rfl,ai _ _⟩
 case round=>
  obtain⟨k,rfl,hk,hn,hb⟩:=hrel;have HN:Hid (fF (X i) (l.take k)=true):=hn;have nT:Hid (Below w.heap.size w wr):=hb;have jd:Hid (Bt wr B c X):=Bt.below HB.out hb;clear hn hb;by_cases hlt:k<l.length
  ·obtain⟨b',o',sS,hb',k3,k4⟩:=HL.out k hlt
   subst sS;have hmem:l.getD k (false,0)∈l:=by simp[List.getD,hlt]
   have hr:=HI.out _ hmem;obtain⟨⟨t,v⟩,hs⟩:=af (l.getD k (false,0));have HT:=YQ (X i) l k hlt;have dz:=agC (X i) l k hlt;rw[hs]at k3 k4 hr HT dz;rw[HN.out,wN]at HT;have Rl:Hid (fF (X i) (l.take (k+1))=(t||(X i).getD v.toNat false)):=HT;have xV:Hid ((t||(X i).getD v.toNat false)=false->fF (X i) l=false):=dz;have F4:wr.cell? ⟨b',o'+k*2,none⟩=some (.bool t):=(nT.out.cell (p:=⟨b',o'+k*2,none⟩) (by simp only;omega)).trans k3;have DT:wr.cell? ⟨b',o'+k*2+1,none⟩=some (.int .i64 v):=by rw[kF];exact(nT.out.cell (p:=⟨b',o'+(k*2+1),none⟩) (by simp only;omega)).trans k4
   have j0:(0:Int)<=(k:Int):=aF _;have j1:(k:Int)<(l.length:Int):=by omega
   have HA:Hid (Below w.heap.size w (wr.alloc (.cells #[.bool t,.int .i64 v] 121))):=nT.out.alloc nT.out.size _;clear hs hmem HT dz k3 k4;cases t with
   |true=>
    go_wp2_with fail
    go_roundw
    case rel=>exact⟨k+1,by go_num,by omega,by rw[Rl.out];rfl,HA.out⟩
    case measure=>simp[intOf];omega
   |false=>
    have hr':0<=v/\v<(N:Int):=hr rfl;clear hr;obtain⟨y,rfl⟩:∃y:Nat,v=y:=⟨v.toNat,by omega⟩;obtain⟨g,cap,hv,_,hgl⟩:=Bt.form jd.out hd (by omega);have hv':=HV.out;rw[hv]at hv';cases hv';obtain⟨k5,_⟩:=Bt.cell jd.out hd hv (m:=y) (by omega);have k6:(wr.alloc (.cells #[.bool false,.int .i64 y] 121)).cell? ⟨g,y,none⟩=some (.bool (bit X i y)):=by rw[dB _ _ _ hgl];exact k5
    have j2:(0:Int)<=(y:Int):=aF _;have j3:(y:Int)<(N:Int):=by omega
    obtain⟨z,hz⟩:=af (bit X i y);have hz':(X i).getD y false=z:=hz;rw[hz]at k6;simp only[Int.toNat_natCast,hz']at Rl xV;clear hz hz' hr' k5 hv;cases z with
    |true=>
     go_wp2_with fail
     go_roundw
     case rel=>exact⟨k+1,by go_num,by omega,by rw[Rl.out];rfl,HA.out⟩
     case measure=>simp[intOf];omega
    |false=>
     go_wp2_with fail
     go_ret;exact⟨by rw[xV.out (by simp)];rfl,HA.out⟩
  ·go_wp2_with fail
   go_ret;exact⟨by rw[<-HN.out,pG (by omega)];rfl,nT.out⟩
theorem ahd{w:World}{B N lc gb:Nat}{dom:Iv->Option Nat}{va vb:Value}{vr:Nat->Value}{la:Option Addr}{X:Vs}{l:List Sy}(h:Bt w B (bT dom va vb vr gb) X)(hB:B<=w.heap.size)(hgr:dom .gr=some 1)(hd:dom .b=some N)(hl:iy w B la l)(hin:∀s∈l,s.1=false->0<=s.2/\s.2<(N:Int))(h8:l.length<=1000):
 Calls Tryz.prog 180 #[vb,.slice la l.length lc,.func (.func 82) #[] #[.pointer (some ⟨gb,0,none⟩)]] w λe w'=>e= .returned (.tuple #[])/\Bt w' B (bT dom va vb vr gb) (Rj l X)/\Kept (bT dom va vb vr gb).K w w':=by
 obtain⟨ba,bc,hv'⟩:=Bt.slice (i:=Iv.b) h hd;have hv:vb= .slice ba N bc:=hv';subst hv;have HB:Hid (Bt w B (bT dom va (.slice ba N bc) vr gb) X):=h;have HL:Hid (iy w B la l):=hl;have HI:Hid (∀s∈l,s.1=false->0<=s.2/\s.2<(N:Int)):=hin;clear h hv' hl hin
 go_enter Tryz.func180,Tryz.ntmps180
 go_wp2_with fail
 go_loopw [10] (λs wr=> ∃k:Nat,s= .int .i64 k/\k<=l.length/\Bt wr B (bT dom va (.slice ba N bc) vr gb) (bf k (ve l) X)/\Kept (bT dom va (.slice ba N bc) vr gb).K w wr) (λs _=>l.length-(intOf s).toNat)
 case atStart=>exact⟨0,rfl,aP _,HB.out,Kept.refl _ _⟩
 case round=>
  obtain⟨k,rfl,hk,hBr,hKr⟩:=hrel;obtain⟨Y,hY⟩:=af (bf k (ve l) X);rw[hY]at hBr;have HY:Hid (bf k (ve l) X=Y):=hY;have jd:Hid (Bt wr B (bT dom va (.slice ba N bc) vr gb) Y):=hBr;have oP:Hid (Kept (bT dom va (.slice ba N bc) vr gb).K w wr):=hKr;have Bq:Hid (Below B w wr):=hKr.below (λb hb=>Bt.ge HB.out hb) hB;clear hY hBr hKr;by_cases hlt:k<l.length
  ·obtain⟨b',o',sS,hb',k3,k4⟩:=HL.out k hlt
   subst sS;have hmem:l.getD k (false,0)∈l:=by simp[List.getD,hlt]
   have hr:=HI.out _ hmem;have hstep:bf (k+1) (ve l) X=if (l.getD k (false,0)).1 then Y else jv .gr Y .b (l.getD k (false,0)).2.toNat:=by rw[<-HY.out];rfl
   obtain⟨⟨t,v⟩,hs⟩:=af (l.getD k (false,0));rw[hs]at k3 k4 hr hstep;have F4:wr.cell? ⟨b',o'+k*2,none⟩=some (.bool t):=(Bq.out.cell (p:=⟨b',o'+k*2,none⟩) hb').trans k3;have DT:wr.cell? ⟨b',o'+k*2+1,none⟩=some (.int .i64 v):=by rw[kF];exact(Bq.out.cell (p:=⟨b',o'+(k*2+1),none⟩) hb').trans k4
   have j0:(0:Int)<=(k:Int):=aF _;have j1:(k:Int)<(l.length:Int):=by omega
   have HA:Hid (Bt (wr.alloc (.cells #[.bool t,.int .i64 v] 121)) B (bT dom va (.slice ba N bc) vr gb) Y):=Bt.alloc jd.out _;have oZ:Hid (Kept (bT dom va (.slice ba N bc) vr gb).K w (wr.alloc (.cells #[.bool t,.int .i64 v] 121))):=oP.out.alloc _;have HS:Hid (bf (k+1) (ve l) X=if t then Y else jv .gr Y .b v.toNat):=hstep;clear hs hmem k3 k4 hstep;cases t with
   |true=>
    go_wp2_with fail
    go_roundw
    case rel=>exact⟨k+1,by go_num,by omega,by rw[HS.out];exact HA.out,oZ.out⟩
    case measure=>simp[intOf];omega
   |false=>
    have hr':0<=v/\v<(N:Int):=hr rfl;clear hr;obtain⟨y,rfl⟩:∃y:Nat,v=y:=⟨v.toNat,by omega⟩;have put:=Lx (i:=Iv.b) (m:=y) HA.out (MN hgr) hd (by omega) (by simp);have put':Calls Tryz.prog 82 #[.slice ba N bc,.int .i64 y,.pointer (some ⟨gb,0,none⟩)] _ _:=put;clear put hr'
    go_wp2_with (go_at_call 82;refine put'.mono ?_;rintro e w2 ⟨rfl,hB2,hK2⟩)
    go_roundw
    case rel=>exact⟨k+1,by go_num,by omega,by rw[HS.out];simpa using hB2,oZ.out.trans hK2⟩
    case measure=>simp[intOf];omega
  ·obtain rfl:k=l.length:=by omega
   go_wp2_with fail
   go_end0
   exact⟨rfl,by show Bt _ _ _ (bf l.length (ve l) X);rw[HY.out];exact jd.out,oP.out⟩
section
variable{N:Nat}{va vb:Value}{vr:Nat->Value}{gb:Nat}
theorem ahe{w:World}{B sx qc T:Nat}{qa:Option Addr}{X:Vs}{R:List Ru}{r:Ru}(h:Bt w B (bT (iG N) va vb vr gb) X)(hB:B<=w.heap.size)(hs:w.cell? ⟨sx,0,none⟩=some va)(qo:¬(bT (iG N) va vb vr gb).K sx)
 (hf:dD T N R) (hr:r∈R) (h8:r.2.length<=8) (hR:iy w B qa r.2):
 Calls Tryz.prog 177 #[.agg #[.int .i64 r.1,.slice qa r.2.length qc],.func (.func 82) #[] #[.pointer (some ⟨gb,0,none⟩)],.pointer (some ⟨sx,0,none⟩)] w λe w'=>
  e= .returned (.tuple #[])/\Bt w' B (bT (iG N) va vb vr gb) (um r X)/\Kept (bT (iG N) va vb vr gb).K w w':=by
 have hL:=hf.left r hr;have hin:=hf.name r hr;obtain⟨L,Rt⟩:=r;simp only at hL hin h8 hR⊢;obtain⟨l,rfl⟩:∃l:Nat,L=l:=⟨L.toNat,by omega⟩;obtain⟨aa,ac,hv'⟩:=Bt.slice (i:=Iv.a) (n:=N) h rfl;have hv:va= .slice aa N ac:=hv';clear hv';subst hv;have hK1:Kept (bT (iG N) (.slice aa N ac) vb vr gb).K w (w.alloc (.cells #[.int .i64 l,.slice qa Rt.length qc] 96)):=(Kept.refl _ _).alloc _;have sW:=hR.below (hK1.below (λb hb=>Bt.ge h hb) hB);have all:=Zy (i:=Iv.a) (N:=N) (lc:=qc) (Bt.alloc h (.cells #[.int .i64 l,.slice qa Rt.length qc] 96)) (by simp;omega) rfl sW hin (by omega);have all':Calls Tryz.prog 178 #[.slice aa N ac,.slice qa Rt.length qc] _ _:=all;have hs1:=hK1.cell qo hs;have HB:Hid (Bt w B (bT (iG N) (.slice aa N ac) vb vr gb) X):=h;have HsK:Hid (¬(bT (iG N) (.slice aa N ac) vb vr gb).K sx):=qo;have HM:Hid (um ((l:Int),Rt) X=if fF (X .a) Rt then jv .gr X .a l else X):=by show um ((l:Int),Rt) X=_;simp[um]
 obtain⟨z,hz⟩:=af (fF (X .a) Rt);rw[hz]at HM all';clear all hz h qo hR sW hin;cases z with
 |true=>
  go_enter Tryz.func177,Tryz.ntmps177
  go_wp2_with
   (first
    |(go_at_call 178;refine all'.mono ?_;rintro e w2 ⟨rfl,hb2⟩
      have q0:=(hb2.cell (p:=⟨sx,0,none⟩) (aQ _ _ hs1)).trans hs1;have q1:w2.cell? ⟨w.heap.size,0,none⟩=some (.int .i64 l):=(hb2.cell (by simp)).trans (by simp[go_sem]);have hB2:Bt w2 B (bT (iG N) (.slice aa N ac) vb vr gb) X:=Bt.below (Bt.alloc HB.out _) hb2;have put:=Lx (i:=Iv.a) (n:=N) (m:=l) hB2 (MN rfl) rfl (by omega) (by simp);have put':Calls Tryz.prog 82 #[.slice aa N ac,.int .i64 l,.pointer (some ⟨gb,0,none⟩)] _ _:=put;have fQ:Hid (Kept (bT (iG N) (.slice aa N ac) vb vr gb).K w w2):=hK1.trans (Kept.dI hb2)
      clear hB2 put hb2 all' hs1)
    |(go_at_call 82;refine put'.mono ?_;rintro e w3 ⟨rfl,hB3,hK3⟩))
  go_end0
  exact⟨rfl,by rw[HM.out];exact hB3,fQ.out.trans hK3⟩
 |false=>
  go_enter Tryz.func177,Tryz.ntmps177
  go_wp2_with
   (go_at_call 178;refine all'.mono ?_;rintro e w2 ⟨rfl,hb2⟩
    have HB2:Hid (Bt w2 B (bT (iG N) (.slice aa N ac) vb vr gb) X):=Bt.below (Bt.alloc HB.out _) hb2;have fQ:Hid (Kept (bT (iG N) (.slice aa N ac) vb vr gb).K w w2):=hK1.trans (Kept.dI hb2)
    clear hb2 all' hs1)
  go_end0
  exact⟨rfl,by rw[HM.out];exact HB2.out,fQ.out⟩
end
theorem MO{T N:Nat}{R:List Ru}(h:aJ T N R=true):dD T N R:=by
 obtain⟨_,h1,_,_,h5⟩:=iD h
 have mem:∀r∈R,0<=r.1/\r.1<(N:Int)/\∀s∈r.2,0<=s.2/\s.2<if s.1 then (T:Int) else (N:Int):=λr hr=>by
  obtain⟨q,hq,rfl⟩:=Ji hr;exact⟨(h5 q hq).1,(h5 q hq).2.1,(h5 q hq).2.2.2⟩
 refine⟨λr hr=>⟨(mem r hr).1,(mem r hr).2.1⟩,λr hr s hs hb=> ?_,λr hr s hs hb=> ?_,h1⟩
 ·have:=(mem r hr).2.2 s hs;rw[hb]at this;simpa using this
 ·have:=(mem r hr).2.2 s hs;rw[hb]at this;simpa using this
def wG:Nat->Value:=λ_=> .slice none 0 0
def yC(N:Nat):Vs
 | .a=>List.replicate N false
 | .gr=>[true]
 |_=>[]
theorem Zz{w:World}{B:Nat}(hB:B<=w.heap.size):(w.alloc (.cells #[.bool true] 4)).ownsRow B 4 1 (.slice (some ⟨w.heap.size,0,none⟩) 1 1) 1 ([true].map Value.bool):=by
 have:=sM (base:=B) (e:=4) (size:=1) w #[.bool true] 1 hB (by unfold maxLen;omega) rfl;simpa using this
theorem ahf{w1:World}{N:Nat}(hN:N<=maxLen)(o:Obj):Bt ((((w1.alloc (.cells (madeCells #[.bool false] N) 4)).alloc o)).alloc (.cells #[.bool true] 4)) w1.heap.size (bT (iG N) (.slice (some ⟨w1.heap.size,0,none⟩) N N) (.slice none 0 0) wG (w1.heap.size+2)) (yC N):=by
 have h0:Bt w1 w1.heap.size (⟨λ_=> .slice none 0 0,λ_=>none⟩:eP Iv) (yC N):=adh _ _ λ_=>rfl
 have h1:Bt (w1.alloc (.cells (madeCells #[.bool false] N) 4)) w1.heap.size (bT (λ| .a=>some N|_=>none) (.slice (some ⟨w1.heap.size,0,none⟩) N N) (.slice none 0 0) wG 0) (yC N):=
  KM .a h0 ((ai _ _).alloc (ah _) _) rfl (OX w1 hN) (λg hg=>by cases hg;exact ah _) (λj hj m hm=>by cases j<;>simp_all [bT])
 have h2:=Bt.alloc h1 o;refine KM .gr h2 ((ai _ _).alloc (ah _) _) rfl ?_ (λg hg=> ?_) (λj hj m hm=>by cases j<;>simp_all [bT,iG])
 ·have:=Zz (w:=(w1.alloc (.cells (madeCells #[.bool false] N) 4)).alloc o) (B:=w1.heap.size) (by simp;omega)
  simp only[lU]at this;exact this
 ·simp only[bT,Value.ownBlock,bM]at hg
  simp only[lU];omega
theorem ahg{N:Nat}{R:List Ru}:wE .gr (iG N) (ZM N R) (yC N) R um (yC N):=by
 refine⟨λi n hd=> ?_,λi n m hd hm hb=> ?_,λ_ _ _ h=>h,λhz=>by simp[bit,yC]at hz⟩
 ·cases i<;>simp[iG]at hd<;>subst hd<;>simp[yC]
 ·cases i<;>simp[iG]at hd
  ·trivial
  ·subst hd
   simp[bit,yC,List.getD,hm]at hb
def Jm(N:Nat):List (Iv×Nat):=(List.range N).map λm=>(.a,m)
theorem ahh(N:Nat):∀i n m,i≠Iv.gr->iG N i=some n->m<n->(i,m)∈Jm N:=λi n m hi hd hm=>by
 cases i<;>simp[iG]at hd hi;subst hd;simp[Jm,hm]
theorem ahi(N:Nat):∀p∈Jm N,p.1≠Iv.gr:=λp hp=>by
 simp only[Jm,jP]at hp;obtain⟨_,_,rfl⟩:=hp;simp
theorem bT.jD{dom:Iv->Option Nat}{va vb:Value}{vr:Nat->Value}{gb b:Nat}(h:∀i n,dom i=some n->((bT dom va vb vr gb).V i).ownBlock≠some b):¬(bT dom va vb vr gb).K b:=λ⟨i,n,hd,hb⟩=>h i n hd hb
theorem ZA{w:World}{T N:Nat}{rv:Value}{R:List Ru}(hr:aG w w.heap.size rv R)(hm:aJ T N R=true):
 Calls Tryz.prog 162 #[.agg #[.int .i64 T,.int .i64 N,rv]] w λe w'=> ∃g Y,e= .returned (.tuple #[.slice (some ⟨g,0,none⟩) N N,.int .i64 0])/\Below w.heap.size w w'/\gY w' (w.heap.size+1) g N Y/\∀n,hasB Y n↔jA N R n:=by
 have hf:=MO hm;obtain⟨hT,hN1,hN,hRl,rz⟩:=iD hm;obtain⟨ra,rc,aI⟩:=hr.1;subst aI;have may:=oD (T:=T) (N:=N) (hr.boxed (.cells #[.int .i64 T,.int .i64 N,.slice ra R.length rc] 27));rw[hm]at may;have HR:Hid (aG w w.heap.size (.slice ra R.length rc) R):=hr;have HF:Hid (dD T N R):=hf;have HQ:Hid (∀q,q<R.length->(R.getD q (0,[])).2.length<=8):=λq hq=>(rz q hq).2.2.1;have Ap:=Eg N (by omega);clear hr hm hf rz
 go_enter Tryz.func162,Tryz.ntmps162
 go_wp2_with
  (first
   |(go_at_call 18;refine may.mono ?_;rintro e w1 ⟨rfl,hB1⟩
     have b1:w1.cell? ⟨w.heap.size,1,none⟩=some (.int .i64 N):=(hB1.cell (by simp)).trans (by simp[go_sem]);have b2:w1.cell? ⟨w.heap.size,2,none⟩=some (.slice ra R.length rc):=(hB1.cell (by simp)).trans (by simp[go_sem]);have hs1:w.heap.size+1<=w1.heap.size:=by have:=hB1.size;simpa using this
     have HX:Hid (Below w.heap.size w w1):=((ai _ _).alloc (ah _) _).trans (hB1.mono (by simp))
     have m2:((w1.alloc (.cells (madeCells #[.bool false] N) 4)).alloc (.cells #[.slice (some ⟨w1.heap.size,0,none⟩) N N] 61)).cell? ⟨w.heap.size,2,none⟩=some (.slice ra R.length rc):=by
      rw[dB _ _ _ (by simp;omega),dB _ _ _ (by omega)];exact b2
     clear hB1 may)
   |(go_at_call 44
     have nA:=ahf (w1:=w1) (N:=N) (by unfold maxLen;omega) (.cells #[.slice (some ⟨w1.heap.size,0,none⟩) N N] 61);have CZ:Below w1.heap.size w1 (((w1.alloc (.cells (madeCells #[.bool false] N) 4)).alloc (.cells #[.slice (some ⟨w1.heap.size,0,none⟩) N N] 61)).alloc (.cells #[.bool true] 4)):=(((ai _ _).alloc (ah _) _).alloc (by simp) _).alloc (by simp;omega) _;have qM:aG (((w1.alloc (.cells (madeCells #[.bool false] N) 4)).alloc (.cells #[.slice (some ⟨w1.heap.size,0,none⟩) N N] 61)).alloc (.cells #[.bool true] 4)) w1.heap.size (.slice ra R.length rc) R:=((HR.out.below HX.out).mono (by omega)).below CZ;have qo:¬(bT (iG N) (.slice (some ⟨w1.heap.size,0,none⟩) N N) (.slice none 0 0) wG (w1.heap.size+2)).K (w1.heap.size+1):=bT.jD λi n hd=>by cases i<;>simp[iG]at hd<;>simp[bT,Value.ownBlock]
     have hsv:(((w1.alloc (.cells (madeCells #[.bool false] N) 4)).alloc (.cells #[.slice (some ⟨w1.heap.size,0,none⟩) N N] 61)).alloc (.cells #[.bool true] 4)).cell? ⟨w1.heap.size+1,0,none⟩=some (.slice (some ⟨w1.heap.size,0,none⟩) N N):=by simp[go_sem]
     refine(P6 (c:=bT (iG N) (.slice (some ⟨w1.heap.size,0,none⟩) N N) (.slice none 0 0) wG (w1.heap.size+2)) (gr:=Iv.gr) (B:=w1.heap.size) (X:=yC N) (R:=R) (f:=um) (Head:=wE .gr (iG N) (ZM N R) (yC N) R um) (nV:=Jl .gr (Jm N))
      (by simpa using nA) (by simp;omega) (by simpa using MN (dom:=iG N) rfl) qM (by omega) (λk hk w2 Y qa qc hK Rm IC hqc=> ?_) (λargs w=>by simp[callFunc,Tryz.func177,Tryz.f177 ]) ahg
      (wE.next rfl (ahh N) (ahi N) (λ_=>trivial) (λq hq Y hY=>(Zw (HF.out.left _ (yB hq)) hY).1) (λq hq Y hY hs=>ag9 HF.out (yB hq) hY hs))).mono ?_
     ·have e:∀a b c:Value,#[a,b]++ #[c]= #[a,b,c]:=λa b c=>by simp
      rw[e];have hs:=hK.size;simp only[lU]at hs⊢;exact ahe Rm (by omega) (hK.cell qo hsv) qo HF.out (yB hk) (HQ.out k hk) IC
     rintro e w3 ⟨rfl,Y,hH,hg,hB3,hK3⟩;have n0:=hK3.cell qo hsv;have HB3:Hid (Bt w3 w1.heap.size (bT (iG N) (.slice (some ⟨w1.heap.size,0,none⟩) N N) (.slice none 0 0) wG (w1.heap.size+2)) Y):=hB3;have HL:Hid (∀n,hasB (Y .a) n↔jA N R n):=aha HF.out hH hg;have HB:Hid (Below w.heap.size w w3):=HX.out.trans ((CZ.trans (hK3.below (λb hb=>Bt.ge hB3 hb) (by simp;omega))).mono (by omega))
     clear nA CZ qM qo hsv hH hg hB3 hK3))
 refine aH (v:= .tuple #[.slice (some ⟨w1.heap.size,0,none⟩) N N,.int .i64 0]) (by simp[results,Tryz.results162,go_sem]) rfl ⟨w1.heap.size,Y .a,rfl,HB.out,lq (Bt.own (i:=Iv.a) HB3.out rfl) (by omega),HL.out⟩
section
variable{N:Nat}{va vb:Value}{vr:Nat->Value}{gb:Nat}
theorem ahj{w:World}{B sx mx qc T:Nat}{qa:Option Addr}{X:Vs}{R:List Ru}{r:Ru}(h:Bt w B (bT (gD N) va vb vr gb) X)(hB:B<=w.heap.size)(hs:w.cell? ⟨sx,0,none⟩=some vb)(qo:¬(bT (gD N) va vb vr gb).K sx)
 (hx:w.cell? ⟨mx,0,none⟩=some va) (Fq:¬(bT (gD N) va vb vr gb).K mx) (hf:dD T N R) (hr:r∈R) (h8:r.2.length<=8) (hR:iy w B qa r.2):
 Calls Tryz.prog 179 #[.agg #[.int .i64 r.1,.slice qa r.2.length qc],.func (.func 82) #[] #[.pointer (some ⟨gb,0,none⟩)],.pointer (some ⟨sx,0,none⟩),.pointer (some ⟨mx,0,none⟩)] w λe w'=>
  e= .returned (.tuple #[])/\Bt w' B (bT (gD N) va vb vr gb) (uq r X)/\Kept (bT (gD N) va vb vr gb).K w w':=by
 have hL:=hf.left r hr;have hin:=hf.name r hr;obtain⟨L,Rt⟩:=r;simp only at hL hin h8 hR⊢;obtain⟨l,rfl⟩:∃l:Nat,L=l:=⟨L.toNat,by omega⟩;obtain⟨aa,ac,hv'⟩:=Bt.slice (i:=Iv.a) (n:=N) h rfl;have hv:va= .slice aa N ac:=hv';clear hv';subst hv;obtain⟨bg,bc,hv',_,hbl⟩:=Bt.form (i:=Iv.b) (n:=N) h rfl (by omega);have hv:vb= .slice (some ⟨bg,0,none⟩) N bc:=hv';clear hv';subst hv;obtain⟨c1,_⟩:=Bt.cell (i:=Iv.b) (n:=N) h rfl rfl (m:=l) (by omega);have hK1:Kept (bT (gD N) (.slice aa N ac) (.slice (some ⟨bg,0,none⟩) N bc) vr gb).K w (w.alloc (.cells #[.int .i64 l,.slice qa Rt.length qc] 96)):=(Kept.refl _ _).alloc _;have sW:=hR.below (hK1.below (λb hb=>Bt.ge h hb) hB);have all:=Zy (i:=Iv.a) (N:=N) (lc:=qc) (Bt.alloc h (.cells #[.int .i64 l,.slice qa Rt.length qc] 96)) (by simp;omega) rfl sW hin (by omega);have all':Calls Tryz.prog 178 #[.slice aa N ac,.slice qa Rt.length qc] _ _:=all;have hs1:=hK1.cell qo hs;have hx1:=hK1.cell Fq hx;have c1':(w.alloc (.cells #[.int .i64 l,.slice qa Rt.length qc] 96)).cell? ⟨bg,l,none⟩=some (.bool (bit X .b l)):=by rw[dB _ _ _ hbl];exact c1
 have j0:(0:Int)<=(l:Int):=aF _;have j1:(l:Int)<(N:Int):=by omega
 have HB:Hid (Bt w B (bT (gD N) (.slice aa N ac) (.slice (some ⟨bg,0,none⟩) N bc) vr gb) X):=h;have HI:Hid (∀s∈Rt,s.1=false->0<=s.2/\s.2<(N:Int)):=hin;have HR1:Hid (iy (w.alloc (.cells #[.int .i64 l,.slice qa Rt.length qc] 96)) B qa Rt):=sW;have HM:Hid (uq ((l:Int),Rt) X=if bit X .b l&&fF (X .a) Rt then Rj Rt X else X):=by show uq ((l:Int),Rt) X=_;simp[uq]
 obtain⟨z,hz⟩:=af (fF (X .a) Rt);obtain⟨y,hy⟩:=af (bit X .b l);rw[hz]at HM all';rw[hy]at HM c1';clear all hz hy h qo Fq hR sW hin c1;cases y with
 |false=>
  go_enter Tryz.func179,Tryz.ntmps179
  go_wp2_with fail
  go_end0
  exact⟨rfl,by rw[HM.out];exact Bt.alloc HB.out _,hK1⟩
 |true=>
  cases z with
  |true=>
   go_enter Tryz.func179,Tryz.ntmps179
   go_wp2_with
    (first
     |(go_at_call 178;refine all'.mono ?_;rintro e w2 ⟨rfl,hb2⟩
       have q0:=(hb2.cell (p:=⟨sx,0,none⟩) (aQ _ _ hs1)).trans hs1;have q1:w2.cell? ⟨w.heap.size,1,none⟩=some (.slice qa Rt.length qc):=(hb2.cell (by simp)).trans (by simp[go_sem]);have hB2:Bt w2 B (bT (gD N) (.slice aa N ac) (.slice (some ⟨bg,0,none⟩) N bc) vr gb) X:=Bt.below (Bt.alloc HB.out _) hb2;have hsz2:w.heap.size+1<=w2.heap.size:=by have:=hb2.size;simpa using this
       have names:=ahd (N:=N) (lc:=qc) hB2 (by omega) rfl rfl (HR1.out.below (hb2.mono (by simp;omega))) HI.out (by omega);have fQ:Hid (Kept (bT (gD N) (.slice aa N ac) (.slice (some ⟨bg,0,none⟩) N bc) vr gb).K w w2):=hK1.trans (Kept.dI hb2)
       clear hB2 hb2 all' hs1 hx1)
     |(go_at_call 180;refine names.mono ?_;rintro e w3 ⟨rfl,hB3,hK3⟩))
   go_end0
   exact⟨rfl,by rw[HM.out];exact hB3,fQ.out.trans hK3⟩
  |false=>
   go_enter Tryz.func179,Tryz.ntmps179
   go_wp2_with
    (go_at_call 178;refine all'.mono ?_;rintro e w2 ⟨rfl,hb2⟩
     have HB2:Hid (Bt w2 B (bT (gD N) (.slice aa N ac) (.slice (some ⟨bg,0,none⟩) N bc) vr gb) X):=Bt.below (Bt.alloc HB.out _) hb2;have fQ:Hid (Kept (bT (gD N) (.slice aa N ac) (.slice (some ⟨bg,0,none⟩) N bc) vr gb).K w w2):=hK1.trans (Kept.dI hb2)
     clear hb2 all' hs1 hx1)
   go_end0
   exact⟨rfl,by rw[HM.out];exact HB2.out,fQ.out⟩
end
def uw(N:Nat)(Mk:List Bool):Vs
 | .a=>Mk
 | .b=>(List.replicate N false).set 0 (Mk.getD 0 false)
 | .gr=>[true]
 |_=>[]
structure MP(w w1:World)(B N g:Nat)(rv:Value)(Mk:List Bool)(wx:World):Prop where
 below:Below w1.heap.size w1 wx
 size:wx.heap.size=w1.heap.size+3
 rules:wx.cell? ⟨w.heap.size,2,none⟩=some rv
 MQ:wx.cell? ⟨w1.heap.size,0,none⟩=some (.slice (some ⟨g,0,none⟩) N N)
 MR:wx.cell? ⟨w1.heap.size+2,0,none⟩=some (.slice (some ⟨w1.heap.size+1,0,none⟩) N N)
 MS:gY wx B (w1.heap.size+1) N ((List.replicate N false).set 0 (Mk.getD 0 false))
structure MU(w w1:World)(B N g:Nat)(rv:Value)(wx:World):Prop where
 below:Below w1.heap.size w1 wx
 size:wx.heap.size=w1.heap.size+3
 rules:wx.cell? ⟨w.heap.size,2,none⟩=some rv
 MQ:wx.cell? ⟨w1.heap.size,0,none⟩=some (.slice (some ⟨g,0,none⟩) N N)
 MR:wx.cell? ⟨w1.heap.size+2,0,none⟩=some (.slice (some ⟨w1.heap.size+1,0,none⟩) N N)
 MS:gY wx B (w1.heap.size+1) N (List.replicate N false)
theorem ahk{w w1:World}{B N g:Nat}{rv:Value}(hN:N<=maxLen)(hs:w.heap.size<w1.heap.size)(hB:B<=w1.heap.size)(hr:w1.cell? ⟨w.heap.size,2,none⟩=some rv):
 MU w w1 B N g rv (((w1.alloc (.cells #[.slice (some ⟨g,0,none⟩) N N] 61)).alloc (.cells (madeCells #[.bool false] N) 4)).alloc (.cells #[.slice (some ⟨w1.heap.size+1,0,none⟩) N N] 61)):=by
 refine⟨(((ai _ _).alloc (ah _) _).alloc (by simp) _).alloc (by simp;omega) _,by simp,?_,?_,?_,?_⟩
 ·rw[dB _ _ _ (by simp;omega),dB _ _ _ (by simp;omega),dB _ _ _ hs];exact hr
 ·rw[dB _ _ _ (by simp;omega),dB _ _ _ (by simp)];simp[go_sem]
 ·have:w1.heap.size+2=((w1.alloc (.cells #[.slice (some ⟨g,0,none⟩) N N] 61)).alloc (.cells (madeCells #[.bool false] N) 4)).heap.size:=by simp
  rw[this];simp[go_sem]
 ·have:=OX (w1.alloc (.cells #[.slice (some ⟨g,0,none⟩) N N] 61)) hN
  simp only[lU]at this;exact lq (World.ownsRow.alloc this _) (by omega)
theorem MU.ready{w w1 wx:World}{B N g:Nat}{rv:Value}(h:MU w w1 B N g rv wx)(hs:w.heap.size<w1.heap.size)(Mk:List Bool):MP w w1 B N g rv Mk (wx.setCell ⟨w1.heap.size+1,0,none⟩ (.bool (Mk.getD 0 false))).drew:=by
 refine⟨(h.below.setCell (by simp) _).drew,by show (wx.setCell _ _).heap.size=_;simp;exact h.size,?_,?_,?_,?_⟩
 ·exact(jW (.inl (by simp only;omega))).trans h.rules
 ·exact(jW (.inl (by simp only;omega))).trans h.MQ
 ·exact(jW (.inl (by simp only;omega))).trans h.MR
 ·exact h.MS.set 0 _
theorem ahl{w w1 wx:World}{B N g:Nat}{rv:Value}{Mk:List Bool}(h:gY w1 B g N Mk)(hr:MP w w1 B N g rv Mk wx)(hB:B<=wx.heap.size):Bt (wx.alloc (.cells #[.bool true] 4)) B (bT (gD N) (.slice (some ⟨g,0,none⟩) N N) (.slice (some ⟨w1.heap.size+1,0,none⟩) N N) wG wx.heap.size) (uw N Mk):=by
 have h0:Bt w1 B (⟨λ_=> .slice (some ⟨g,0,none⟩) N N,λ| .a=>some N|_=>none⟩:eP Iv) (uw N Mk):=by
  refine⟨λi r hr=> ?_,λi j a b hij ha hb=> ?_⟩
  ·cases i<;>simp[eP.P]at hr
   subst hr;exact h
  ·cases i<;>simp[eP.P]at ha
   cases j<;>simp[eP.P]at hb;exact absurd rfl hij
 have h1:Bt wx B (bT (λ| .a=>some N| .b=>some N|_=>none) (.slice (some ⟨g,0,none⟩) N N) (.slice (some ⟨w1.heap.size+1,0,none⟩) N N) wG 0) (uw N Mk):=
  KM .b h0 hr.below rfl hr.MS (λb hb=>by simp only[bT,Value.ownBlock,bM]at hb;omega) (λj hj m hm=>by cases j<;>simp_all [bT])
 refine KM .gr h1 ((ai _ _).alloc (ah _) _) rfl ?_ (λb hb=> ?_) (λj hj m hm=>by cases j<;>simp_all [bT,gD])
 ·exact Zz hB
 ·simp only[bT,Value.ownBlock,bM]at hb
  omega
theorem ahm{T N:Nat}{R:List Ru}(hf:dD T N R){Mk:List Bool}(hl:Mk.length=N)(hM:∀n,hasB Mk n↔jA N R n):wE .gr (gD N) (ZC N R) (uw N Mk) R uq (uw N Mk):=by
 refine⟨λi n hd=> ?_,λi n m hd hm hb=> ?_,λ_ _ _ h=>h,λhz=>by simp[bit,uw]at hz⟩
 ·cases i<;>simp[gD]at hd<;>subst hd<;>simp[uw,hl]
 ·cases i<;>simp[gD]at hd
  ·trivial
  ·subst hd
   exact(hM m).1 ⟨aF _,by simpa [bit,uw] using hb⟩
  ·subst hd
   by_cases h0:m=0
   ·subst h0
    refine oG (Rc hf _) _ (.inl ⟨rfl,(hM 0).1 ⟨su _,?_⟩⟩);simpa [bit,uw,List.getD,hm] using hb
   ·unfold bit uw at hb
    rw[List.getD,Du (λe:0=m=>h0 e.symm)]at hb;simp[hm]at hb
def Jo(N:Nat):List (Iv×Nat):=(List.range N).map (λm=>(.a,m))++(List.range N).map λm=>(.b,m)
theorem ahn(N:Nat):∀i n m,i≠Iv.gr->gD N i=some n->m<n->(i,m)∈Jo N:=λi n m hi hd hm=>by
 cases i<;>simp[gD]at hd hi<;>subst hd<;>simp[Jo,hm]
theorem aho(N:Nat):∀p∈Jo N,p.1≠Iv.gr:=λp hp=>by
 simp only[Jo,iV,jP]at hp;rcases hp with⟨_,_,rfl⟩|⟨_,_,rfl⟩<;>simp
theorem ahp{w:World}{T N:Nat}{rv:Value}{R:List Ru}(hr:aG w w.heap.size rv R)(hm:aJ T N R=true):
 Calls Tryz.prog 163 #[.agg #[.int .i64 T,.int .i64 N,rv]] w λe w'=> ∃g Y,e= .returned (.tuple #[.slice (some ⟨g,0,none⟩) N N,.int .i64 0])/\Below w.heap.size w w'/\gY w' (w.heap.size+1) g N Y/\∀n,hasB Y n↔si N R n:=by
 have hf:=MO hm;obtain⟨hT,hN1,hN,hRl,rz⟩:=iD hm;obtain⟨ra,rc,aI⟩:=hr.1;subst aI;have mk:=ZA (T:=T) (N:=N) (hr.boxed (.cells #[.int .i64 T,.int .i64 N,.slice ra R.length rc] 27)) hm;simp only[lU]at mk;have HR:Hid (aG w w.heap.size (.slice ra R.length rc) R):=hr;have HF:Hid (dD T N R):=hf;have HQ:Hid (∀q,q<R.length->(R.getD q (0,[])).2.length<=8):=λq hq=>(rz q hq).2.2.1;have Ap:=Eg N (by omega);have hN0:0<N:=by omega
 clear hr hm hf rz
 go_enter Tryz.func163,Tryz.ntmps163
 go_upto_region 5 with
  (go_at_call 162;refine mk.mono ?_;rintro e w1 ⟨g,Mk,rfl,hB1,hrow,ZB⟩
   have b1:w1.cell? ⟨w.heap.size,1,none⟩=some (.int .i64 N):=(hB1.cell (by simp)).trans (by simp[go_sem]);have b2:w1.cell? ⟨w.heap.size,2,none⟩=some (.slice ra R.length rc):=(hB1.cell (by simp)).trans (by simp[go_sem]);have hs1:w.heap.size+1<=w1.heap.size:=by have:=hB1.size;simpa using this
   have HX:Hid (Below w.heap.size w w1):=((ai _ _).alloc (ah _) _).trans (hB1.mono (by simp));have m1:(w1.alloc (.cells #[.slice (some ⟨g,0,none⟩) N N] 61)).cell? ⟨w.heap.size,1,none⟩=some (.int .i64 N):=by rw[dB _ _ _ (by omega)];exact b1
   have Gi:Hid (gY w1 (w.heap.size+1+1) g N Mk):=hrow;have Rn:Hid (∀n,hasB Mk n↔jA N R n):=ZB;have c0:=(hrow.cell (m:=0) hN0).1
   clear hB1 mk hrow ZB)
 have hW:=ahk (w:=w) (w1:=w1) (B:=w.heap.size+1+1) (N:=N) (g:=g) (rv:= .slice ra R.length rc) (by unfold maxLen;omega) (by omega) (by have:=Gi.out.ge (by omega);have:=aQ w1 _ c0;simp only at this;omega) b2;generalize (((w1.alloc (.cells #[.slice (some ⟨g,0,none⟩) N N] 61)).alloc (.cells (madeCells #[.bool false] N) 4)).alloc (.cells #[.slice (some ⟨w1.heap.size+1,0,none⟩) N N] 61))=W0 at hW⊢;have hgl:=aQ w1 _ c0;simp only at hgl;have d0:W0.cell? ⟨g,0,none⟩=some (.bool (Mk.getD 0 false)):=(hW.below.cell (p:=⟨g,0,none⟩) hgl).trans c0;have d1:=hW.MQ;have d2:W0.cell? ⟨w1.heap.size+1+1,0,none⟩=_:=hW.MR;obtain⟨d3,d4⟩:=hW.MS.cell (m:=0) hN0;have HW:Hid (MU w w1 (w.heap.size+1+1) N g (.slice ra R.length rc) W0):=hW;obtain⟨x,hx⟩:=af (Mk.getD 0 false);have HXx:Hid (Mk.getD 0 false=x):=hx;rw[hx]at d0;have j1:(0:Int)<(N:Int):=by omega
 clear hW m1 b1 b2 c0 Ap hx
 go_cut [] from 18 to 27 (λwx=>MP w w1 (w.heap.size+1+1) N g (.slice ra R.length rc) Mk wx)
 case first=>
  refine xq 5 (by kernel_rfl) (by kernel_rfl) ?_;simp only[List.take_succ_cons,List.take_zero,qP,om]
  repeat still_step
  refine xg ?_
  go_wp2_with fail
  go_meet
  case rel=>have:=HW.out.ready (by omega) Mk;rw[HXx.out]at this;exact this
 case rest=>
  have r2:=hcut.rules;have HC:Hid (MP w w1 (w.heap.size+1+1) N g (.slice ra R.length rc) Mk wc):=hcut;clear hcut d0 d1 d2 d3 d4
  go_wp2_with
   (go_at_call 44
    have hsz:=HC.out.size;have nA:=ahl Gi.out HC.out (by omega);have CZ:Below w1.heap.size w1 (wc.alloc (.cells #[.bool true] 4)):=HC.out.below.alloc (by omega) _;have qM:aG (wc.alloc (.cells #[.bool true] 4)) (w.heap.size+1+1) (.slice ra R.length rc) R:=((HR.out.below HX.out).below (CZ.mono (by omega))).mono (by omega);have qo:¬(bT (gD N) (.slice (some ⟨g,0,none⟩) N N) (.slice (some ⟨w1.heap.size+1,0,none⟩) N N) wG wc.heap.size).K (w1.heap.size+2):=bT.jD λi n hd=>by cases i<;>simp[gD]at hd<;>simp[bT,Value.ownBlock]<;>omega
    have Fq:¬(bT (gD N) (.slice (some ⟨g,0,none⟩) N N) (.slice (some ⟨w1.heap.size+1,0,none⟩) N N) wG wc.heap.size).K w1.heap.size:=bT.jD λi n hd=>by cases i<;>simp[gD]at hd<;>simp[bT,Value.ownBlock]<;>omega
    have hsv:(wc.alloc (.cells #[.bool true] 4)).cell? ⟨w1.heap.size+2,0,none⟩=some (.slice (some ⟨w1.heap.size+1,0,none⟩) N N):=(dB _ _ _ (by omega)).trans HC.out.MR;have hxv:(wc.alloc (.cells #[.bool true] 4)).cell? ⟨w1.heap.size,0,none⟩=some (.slice (some ⟨g,0,none⟩) N N):=(dB _ _ _ (by omega)).trans HC.out.MQ
    refine(P6 (c:=bT (gD N) (.slice (some ⟨g,0,none⟩) N N) (.slice (some ⟨w1.heap.size+1,0,none⟩) N N) wG wc.heap.size) (gr:=Iv.gr) (B:=w.heap.size+1+1) (X:=uw N Mk) (R:=R) (f:=uq) (Head:=wE .gr (gD N) (ZC N R) (uw N Mk) R uq) (nV:=Jl .gr (Jo N))
     nA (by omega) (MN rfl) qM (by omega) (λk hk w2 Y qa qc hK Rm IC hqc=> ?_) (λargs w=>by simp[callFunc,Tryz.func179,Tryz.f179 ]) (ahm HF.out Gi.out.len Rn.out)
     (wE.next rfl (ahn N) (aho N) (λ_=>trivial) (λq hq Y hY=>(Zx HF.out (yB hq) hY).1) (λq hq Y hY hs=>ahb HF.out (yB hq) hY hs))).mono ?_
    ·have e:∀a b c d:Value,#[a,b]++ #[c,d]= #[a,b,c,d]:=λa b c d=>by simp
     rw[e];have hs:=hK.size;simp only[lU]at hs;exact ahj Rm (by omega) (hK.cell qo hsv) qo (hK.cell Fq hxv) Fq HF.out (yB hk) (HQ.out k hk) IC
    rintro e w3 ⟨rfl,Y,hH,hg,hB3,hK3⟩;have n0:w3.cell? ⟨w1.heap.size+1+1,0,none⟩=_:=hK3.cell qo hsv;have HB3:Hid (Bt w3 (w.heap.size+1+1) (bT (gD N) (.slice (some ⟨g,0,none⟩) N N) (.slice (some ⟨w1.heap.size+1,0,none⟩) N N) wG wc.heap.size) Y):=hB3
    have HL:Hid (∀n,hasB (Y .b) n↔si N R n):=ahc HF.out (λn hn=>(Rn.out n).2 hn) (λh0=>by
     have:=((Rn.out 0).2 h0).2
     simpa [bit,uw,List.getD,hN0] using this) hH hg
    have HB:Hid (Below w.heap.size w w3):=HX.out.trans ((CZ.mono (by omega)).trans ((hK3.below (λb hb=>Bt.ge hB3 hb) (by simp;omega)).mono (by omega)))
    clear nA CZ qM qo Fq hsv hxv hH hg hB3 hK3)
  refine aH (v:= .tuple #[.slice (some ⟨w1.heap.size+1,0,none⟩) N N,.int .i64 0]) (by simp[results,Tryz.results163,go_sem]) rfl ⟨w1.heap.size+1,Y .b,rfl,HB.out,lq (Bt.own (i:=Iv.b) HB3.out rfl) (by omega),HL.out⟩
end Go.Proofs.YthbifaoaiggooaaGreatDoor
