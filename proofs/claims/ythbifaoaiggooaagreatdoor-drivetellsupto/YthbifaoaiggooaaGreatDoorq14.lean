import Derived.Test.YthbifaoaiggooaaGreatDoorq13
set_option maxHeartbeats 3200000
set_option maxRecDepth 100000
namespace Go.Proofs.YthbifaoaiggooaaGreatDoor
open Go.RowKit
section
variable{T N:Nat}{nv:Value}{vf vg:Nat->Value}{gb:Nat}
theorem afk{w:World}{B lc L:Nat}{fv gv:Value}{la:Option Addr}{X:Xs}{l:List Sy}(h:Bt w B (aK T N nv vf vg gb) X)(hB:B<=w.heap.size)(hL:L<N)(hlc:l.length<=lc)
 (hF:kP w (aK T N nv vf vg gb).K N fv vf) (hG:kP w (aK T N nv vf vg gb).K N gv vg) (hl:iy w B la l) (hin:∀s∈l,0<=s.2/\s.2<if s.1 then (T:Int) else (N:Int)) (hT:T<=900) (h8:l.length<=1000):
 Calls Tryz.prog 47 #[.agg #[nv,fv,gv],.agg #[.int .i64 L,.slice la l.length lc],.func (.func 82) #[] #[.pointer (some ⟨gb,0,none⟩)]] w λe w'=>
  e= .returned (.tuple #[])/\Bt w' B (aK T N nv vf vg gb) (LB T L l X)/\Kept (aK T N nv vf vg gb).K w w':=by
 obtain⟨na,nc,vX⟩:=Bt.slice (i:=Iy.null) (n:=N) h rfl;have CB:nv= .slice na N nc:=vX;clear vX;obtain⟨fa,fc,tC⟩:=hF.1;obtain⟨gg,gc,hgv,XF,XG⟩:=hG.2 L hL;subst CB;subst tC;subst hgv;have HB:Hid (Bt w B (aK T N (.slice na N nc) vf vg gb) X):=h;have HF:Hid (kP w (aK T N (.slice na N nc) vf vg gb).K N (.slice fa N fc) vf):=hF;have HG:Hid (kP w (aK T N (.slice na N nc) vf vg gb).K N (.slice (some ⟨gg,0,none⟩) N gc) vg):=hG;have HL:Hid (iy w B la l):=hl;have HI:Hid (∀s∈l,0<=s.2/\s.2<if s.1 then (T:Int) else (N:Int)):=hin;have HgL:Hid (w.cell? ⟨gg,L,none⟩=some (vg L)):=XG;clear h hF hG hl hin XG
 go_enter Tryz.func47,Tryz.ntmps47
 go_wp2_with fail
 go_loopw [12] (λs wr=> ∃k:Nat,s= .int .i64 k/\k<=l.length/\Bt wr B (aK T N (.slice na N nc) vf vg gb) (bf k (qJ T L l) X)/\
  Kept (aK T N (.slice na N nc) vf vg gb).K ((w.alloc (.cells #[.slice na N nc,.slice fa N fc,.slice (some ⟨gg,0,none⟩) N gc] 64)).alloc (.cells #[.int .i64 L,.slice la l.length lc] 96)) wr) (λs _=>l.length-(intOf s).toNat)
 case atStart=>exact⟨0,rfl,aP _,Bt.alloc (Bt.alloc HB.out _) _,Kept.refl _ _⟩
 case round=>
  obtain⟨k,rfl,hk,hBr,hKr⟩:=hrel;obtain⟨Y,hY⟩:=af (bf k (qJ T L l) X);rw[hY]at hBr;have HY:Hid (bf k (qJ T L l) X=Y):=hY;have jd:Hid (Bt wr B (aK T N (.slice na N nc) vf vg gb) Y):=hBr;have oP:Hid (Kept (aK T N (.slice na N nc) vf vg gb).K ((w.alloc (.cells #[.slice na N nc,.slice fa N fc,.slice (some ⟨gg,0,none⟩) N gc] 64)).alloc (.cells #[.int .i64 L,.slice la l.length lc] 96)) wr):=hKr;have rT:Hid (Kept (aK T N (.slice na N nc) vf vg gb).K w wr):=(((Kept.refl _ _).alloc _).alloc _).trans hKr;have hsz:w.heap.size+2<=wr.heap.size:=by have:=hKr.size;simp at this;omega
  have b0:wr.cell? ⟨w.heap.size,0,none⟩=some (.slice na N nc):=hKr.cell (Bt.jD HB.out (ah _)) (by simp[go_sem]);have b1:wr.cell? ⟨w.heap.size,1,none⟩=some (.slice fa N fc):=hKr.cell (Bt.jD HB.out (ah _)) (by simp[go_sem]);have b2:wr.cell? ⟨w.heap.size,2,none⟩=some (.slice (some ⟨gg,0,none⟩) N gc):=hKr.cell (Bt.jD HB.out (ah _)) (by simp[go_sem]);have b3:wr.cell? ⟨w.heap.size+1,0,none⟩=some (.int .i64 L):=hKr.cell (Bt.jD HB.out (nK _)) (by simp[go_sem]);have b4:wr.cell? ⟨w.heap.size+1,1,none⟩=some (.slice la l.length lc):=hKr.cell (Bt.jD HB.out (nK _)) (by simp[go_sem]);have Bq:Hid (Below B w wr):=rT.out.below (λb hb=>Bt.ge HB.out hb) hB;clear hY hBr hKr;by_cases hlt:k<l.length
  ·obtain⟨b',o',sS,hb',k3,k4⟩:=HL.out k hlt
   subst sS;have hmem:l.getD k (false,0)∈l:=by simp[List.getD,hlt]
   have hin:=HI.out _ hmem;obtain⟨⟨t,v⟩,hsy⟩:=af (l.getD k (false,0))
   have hstep:bf (k+1) (qJ T L l) X=if t then Y else if (bI T (.g v.toNat) (l.drop (k+1)) Y).2 then gQ (.g v.toNat) (.g L) (T+1) (bI T (.g v.toNat) (l.drop (k+1)) Y).1 else (bI T (.g v.toNat) (l.drop (k+1)) Y).1:=by
    rw[bf,HY.out,qJ,hsy]
   rw[hsy]at k3 k4 hin;simp only at hin;obtain⟨y,rfl⟩:∃y:Nat,v=y:=⟨v.toNat,by omega⟩;have F4:wr.cell? ⟨b',o'+k*2,none⟩=some (.bool t):=(Bq.out.cell (p:=⟨b',o'+k*2,none⟩) hb').trans k3;have DT:wr.cell? ⟨b',o'+k*2+1,none⟩=some (.int .i64 y):=by rw[kF];exact(Bq.out.cell (p:=⟨b',o'+(k*2+1),none⟩) hb').trans k4
   have j0:(0:Int)<=(k:Int):=aF _;have j1:(k:Int)<(l.length:Int):=by omega
   have HA:Hid (Bt (wr.alloc (.cells #[.bool t,.int .i64 y] 121)) B (aK T N (.slice na N nc) vf vg gb) Y):=Bt.alloc jd.out _;have oZ:Hid (Kept (aK T N (.slice na N nc) vf vg gb).K wr (wr.alloc (.cells #[.bool t,.int .i64 y] 121))):=(Kept.refl _ _).alloc _;clear hmem hsy k3 k4;cases t with
   |true=>
    have HS:Hid (bf (k+1) (qJ T L l) X=Y):=by show bf (k+1) _ X=Y;rw[hstep];simp
    clear hstep hin
    go_wp2_with fail
    go_roundw
    case rel=>exact⟨k+1,by go_num,by omega,by rw[HS.out];exact HA.out,oP.out.alloc _⟩
    case measure=>simp[intOf];omega
   |false=>
    have zH:y<N:=by simp at hin;omega
    simp only[dO,bN,Int.toNat_natCast]at hstep;have HS:Hid (bf (k+1) (qJ T L l) X=if (bI T (.g y) (l.drop (k+1)) Y).2 then gQ (.g y) (.g L) (T+1) (bI T (.g y) (l.drop (k+1)) Y).1 else (bI T (.g y) (l.drop (k+1)) Y).1):=hstep;have m0:=oZ.out.cell (p:=⟨w.heap.size,0,none⟩) (Bt.jD HB.out (ah _)) b0;have m1:=oZ.out.cell (p:=⟨w.heap.size,1,none⟩) (Bt.jD HB.out (ah _)) b1;have m2:=oZ.out.cell (p:=⟨w.heap.size,2,none⟩) (Bt.jD HB.out (ah _)) b2;have m3:=oZ.out.cell (p:=⟨w.heap.size+1,0,none⟩) (Bt.jD HB.out (nK _)) b3;have m4:=oZ.out.cell (p:=⟨w.heap.size+1,1,none⟩) (Bt.jD HB.out (nK _)) b4;obtain⟨gg',gc',hge,_,k5⟩:=HG.out.2 y zH;cases hge;have k6:(wr.alloc (.cells #[.bool false,.int .i64 y] 121)).cell? ⟨gg,y,none⟩=some (vg y):=(rT.out.trans oZ.out).cell XF k5;have j2:(0:Int)<=(y:Int):=aF _;have j3:(y:Int)<(N:Int):=by omega
    have j4:(k:Int)+1<=(l.length:Int):=by omega
    have j5:(l.length:Int)<=(lc:Int):=by omega
    have hw:IntKind.i64.wrap ((k:Int)+1)=(k:Int)+1:=uE _ (by omega);have j8:(0:Int)<=(k:Int)+1:=by omega
    obtain⟨ya,yc,XH⟩:=Bt.slice (i:=Iy.g y) (n:=T+1) HB.out (by simp[aK,bP,zH]);have XI:vg y= .slice ya (T+1) yc:=XH
    have first:=XD (w:=(wr.alloc (.cells #[.bool false,.int .i64 y] 121)).drew)
     (i:= .g y) (lc:=lc-(k+1)) (gl:=N) (gc:=gc) (ga:=some ⟨gg,0,none⟩) (Bt.drew HA.out) (by show B<=(wr.alloc _).heap.size;simp;omega) (n:=T+1) (by simp[bP,zH]) (by omega) (by simp) (HF.out.kept (rT.out.trans oZ.out).drew)
     ((HL.out.drop (c:=lc) (k+1) hlc (by omega)).below ((rT.out.trans oZ.out).drew.below (λb hb=>Bt.ge HB.out hb) hB)) (λs hs=>HI.out s (BK hs)) (by omega) (by simp;omega)
    have first':Calls Tryz.prog 83 #[.agg #[.slice na N nc,.slice fa N fc,.slice (some ⟨gg,0,none⟩) N gc],vg y,.slice (if lc=k+1 then some ⟨b',o',none⟩ else some ⟨b',o'+(k+1)*2,none⟩) (l.drop (k+1)).length (lc-(k+1)),.func (.func 82) #[] #[.pointer (some ⟨gb,0,none⟩)]] _ _:=first
    rw[pE,XI]at first';clear first XH hstep hin b0 b1 b2 b3 b4 k5
    go_upto_region 8 with fail
    go_cut [33] from 13 to 43 (λs33 wx=>s33= .bool (bI T (.g y) (l.drop (k+1)) Y).2/\Bt wx B (aK T N (.slice na N nc) vf vg gb) (bI T (.g y) (l.drop (k+1)) Y).1/\
     Kept (aK T N (.slice na N nc) vf vg gb).K (wr.alloc (.cells #[.bool false,.int .i64 y] 121)) wx)
    case first=>
     by_cases hck:lc=k+1
     ·subst hck
      rw[au rfl,wW,show l.length-(k+1)=0 by omega]at first';refine xq 8 (by kernel_rfl) (by kernel_rfl) ?_;simp only[List.take_succ_cons,List.take_zero,qP,om]
      repeat still_step
      refine xg ?_
      go_wp2_with (go_at_call 83;refine first'.mono ?_;rintro e w2 ⟨rfl,hB2,hK2⟩)
      go_meet
      case rel=>exact⟨rfl,hB2,(Kept.refl _ _).drew.trans hK2⟩
     ·rw[aj hck]at first'
      refine xq 8 (by kernel_rfl) (by kernel_rfl) ?_;simp only[List.take_succ_cons,List.take_zero,qP,om]
      repeat still_step
      refine xg ?_
      go_wp2_with (go_at_call 83;refine first'.mono ?_;rintro e w2 ⟨rfl,hB2,hK2⟩)
      go_meet
      case rel=>exact⟨rfl,hB2,(Kept.refl _ _).drew.trans hK2⟩
    case rest=>
     obtain⟨rfl,hB2,hK2⟩:=hcut;have n2:=hK2.cell (p:=⟨w.heap.size,2,none⟩) (Bt.jD HB.out (ah _)) m2;have n3:=hK2.cell (p:=⟨w.heap.size+1,0,none⟩) (Bt.jD HB.out (nK _)) m3;have n5:=((rT.out.trans oZ.out).trans hK2).cell XF HgL.out;have HB2:Hid (Bt wc B (aK T N (.slice na N nc) vf vg gb) (bI T (.g y) (l.drop (k+1)) Y).1):=hB2;have fQ:Hid (Kept (aK T N (.slice na N nc) vf vg gb).K ((w.alloc (.cells #[.slice na N nc,.slice fa N fc,.slice (some ⟨gg,0,none⟩) N gc] 64)).alloc (.cells #[.int .i64 L,.slice (some ⟨b',o',none⟩) l.length lc] 96)) wc):=(oP.out.trans oZ.out).trans hK2;have j6:(0:Int)<=(L:Int):=aF _;have j7:(L:Int)<(N:Int):=by omega
     clear hB2 hK2 first' m0 m1 m2 m3 m4 k6 F4 DT;cases hz:(bI T (.g y) (l.drop (k+1)) Y).2 with
     |true=>
      have all:=XC (i:= .g y) (j:= .g L) (n:=T+1) (nj:=T+1) HB2.out (by simp[bP,zH]) (by simp[bP,hL]) (ah _) (by simp) (by omega);have all':Calls Tryz.prog 84 #[vg y,vg L,.func (.func 82) #[] #[.pointer (some ⟨gb,0,none⟩)]] _ _:=all;rw[XI]at all';rw[hz]at HS;clear hz all
      go_wp2_with (go_at_call 84;refine all'.mono ?_;rintro e w2 ⟨rfl,hB3,hK3⟩)
      go_roundw
      case rel=>exact⟨k+1,by go_num,by omega,by rw[HS.out];exact hB3,fQ.out.trans hK3⟩
      case measure=>simp[intOf];omega
     |false=>
      rw[hz]at HS;clear hz
      go_wp2_with fail
      go_roundw
      case rel=>exact⟨k+1,by go_num,by omega,by rw[HS.out];exact HB2.out,fQ.out⟩
      case measure=>simp[intOf];omega
  ·obtain rfl:k=l.length:=by omega
   have HS:Hid (LB T L l X=Y):=HY.out
   go_wp2_with fail
   go_end0
   exact⟨rfl,by rw[HS.out];exact jd.out,rT.out⟩
end
end Go.Proofs.YthbifaoaiggooaaGreatDoor
namespace Go.Proofs.YthbifaoaiggooaaGreatDoor
def zI(T:Nat)(r:Ru)(X:Xs):Xs:=LB T r.1.toNat r.2 (lQ T r.1.toNat r.2 X)
def EL(T:Nat)(R:List Ru)(n:Nat)(X:Xs):Xs:=bf n (λq=>zI T (R.getD q (0,[]))) X
def kz(T N:Nat)(X:Xs):Prop:=∀i n,bP T N i=some n->(X i).length=n
structure Up(T N:Nat)(X Y:Xs):Prop where
 dw:kz T N Y
 up:∀i m,bit X i m=true->bit Y i m=true
 still:bit Y .gr 0=false->Y=X
 grew:bit X .gr 0=false->bit Y .gr 0=true->∃i m n,i≠ .gr/\bP T N i=some n/\m<n/\bit X i m=false/\bit Y i m=true
section
variable{T N:Nat}
theorem Up.refl{X:Xs}(h:kz T N X):Up T N X X:=⟨h,λ_ _ h=>h,λ_=>rfl,λh1 h2=>by rw[h1]at h2;cases h2⟩
theorem Up.trans{X Y Z:Xs}(h:Up T N X Y)(k:Up T N Y Z):Up T N X Z:=
 ⟨k.dw,λi m hm=>k.up i m (h.up i m hm),λhz=>by
   have e:=k.still hz;rw[e]at hz⊢;exact h.still hz,λh1 h2=>by
   cases hy:bit Y .gr 0 with
   |true=>
    obtain⟨i,m,n,a1,a2,a3,a4,a5⟩:=h.grew h1 hy;exact⟨i,m,n,a1,a2,a3,a4,k.up i m a5⟩
   |false=>
    obtain⟨i,m,n,a1,a2,a3,a4,a5⟩:=k.grew hy h2;rw[h.still hy]at a4
    exact⟨i,m,n,a1,a2,a3,a4,a5⟩⟩
theorem Qb{X:Xs}{i:Iy}{n m:Nat}(h:kz T N X)(hd:bP T N i=some n)(hm:m<n)(hi:i≠ .gr):Up T N X (kY X i m)/\bit (kY X i m) i m=true:=by
 have hl:=h i n hd;have hg:=h .gr 1 rfl;cases hb:bit X i m with
 |true=>
  have e:kY X i m=X:=by simp[kY,hb]
  rw[e];exact⟨Up.refl h,hb⟩
 |false=>
  have e:kY X i m=bH (bH X i m true) .gr 0 true:=by simp[kY,hb]
  rw[e];have hg':0<(bH X i m true .gr).length:=by rw[vw];omega
  refine⟨⟨λj k hj=> ?_,λj q hq=> ?_,λhz=> ?_,λ_ _=> ?_⟩,?_⟩
  ·rw[vw,vw];exact h j k hj
  ·rw[jE hg',jE (by omega)]
   split
   ·rfl
   ·split
    ·rfl
    ·exact hq
  ·rw[jE hg']at hz
   simp at hz
  ·refine⟨i,m,n,hi,hd,hm,hb,?_⟩
   rw[jE hg',jE (by omega)];simp
  ·rw[jE hg',jE (by omega)]
   simp
theorem LC{X:Xs}{i j:Iy}{n nj:Nat}(h:kz T N X)(hd:bP T N i=some n)(hle:nj<=n)(hi:i≠ .gr):
 Up T N X (gQ i j nj X)/\∀m,m<nj->bit X j m=true->bit (gQ i j nj X) i m=true:=by
 induction nj with
 |zero=>exact⟨Up.refl h,λm hm=>absurd hm (iI _)⟩
 |succ k ih=>
  obtain⟨h1,h2⟩:=ih (by omega);have e:gQ i j (k+1) X=if bit (gQ i j k X) j k then kY (gQ i j k X) i k else gQ i j k X:=rfl
  rw[e];cases hb:bit (gQ i j k X) j k with
  |true=>
   obtain⟨p1,p2⟩:=Qb (m:=k) h1.dw hd (by omega) hi;simp only[bQ];refine⟨h1.trans p1,λm hm hx=> ?_⟩;rcases fJ.1 hm with hm|rfl
   ·exact p1.up _ _ (h2 m hm hx)
   ·exact p2
  |false=>
   simp only[dO,bN];refine⟨h1,λm hm hx=> ?_⟩;rcases fJ.1 hm with hm|rfl
   ·exact h2 m hm hx
   ·rw[h1.up _ _ hx]at hb;cases hb
def tT(X:Xs)(n:Int):Prop:=0<=n/\bit X .null n.toNat=true
def CF(X:Xs)(t:Nat)(n:Int):Prop:=0<=n/\bit X (.f n.toNat) t=true
def XJ(X:Xs)(t:Nat)(n:Int):Prop:=0<=n/\bit X (.g n.toNat) t=true
def uS(T N:Nat)(l:List Sy):Prop:=∀s∈l,0<=s.2/\s.2<if s.1 then (T:Int) else (N:Int)
theorem uS.tail{s:Sy}{l:List Sy}(h:uS T N (s::l)):uS T N l:=λx hx=>h x (mH _ hx)
theorem uS.drop{l:List Sy}(h:uS T N l)(k:Nat):uS T N (l.drop k):=λx hx=>h x (BK hx)
theorem Qc{Nu A:Int->Prop}{t:Int}{s:Sy}{l:List Sy}(h:mP Nu A t (s::l)):((s.1=true/\s.2=t)\/(s.1=false/\A s.2))\/(s.1=false/\Nu s.2/\mP Nu A t l):=by
 obtain⟨i,x,h1,h2,h3⟩:=h;cases i with
 |zero=>
  simp at h1;subst h1;exact .inl h2
 |succ i=>
  right;simp at h1 h3;have hs:=h3 s (by simp);exact⟨hs.1,hs.2,i,x,h1,h2,λy hy=>h3 y (by simp[hy])⟩
theorem LD{i:Iy}{n:Nat}(hd:bP T N i=some n)(Bp:T<=n)(hi:i≠ .gr):∀(l:List Sy),uS T N l->∀X,kz T N X->
 Up T N X (bI T i l X).1/\(bit (bI T i l X).1 .gr 0=false->(∀t,t<T->mP (tT X) (CF X t) t l->bit X i t=true)/\(mO (tT X) l->(bI T i l X).2=true)):=by
 intro l
 induction l with
 |nil=>
  intro _ X h;refine⟨Up.refl h,λ_=>⟨λt _ hb=> ?_,λ_=>rfl⟩⟩;obtain⟨q,s,h1,_⟩:=hb;simp at h1
 |cons s l ih=>
  intro hin X h;have hs:=hin s (by simp);obtain⟨b,v⟩:=s;cases b with
  |true=>
   simp only[bQ]at hs;obtain⟨p1,p2⟩:=Qb (m:=v.toNat) h hd (by omega) hi;have e:bI T i ((true,v)::l) X=(kY X i v.toNat,false):=by simp[bI]
   rw[e];refine⟨p1,λhz=>⟨λt ht hb=> ?_,λha=> ?_⟩⟩
   ·rw[p1.still hz]at p2
    rcases Qc hb with(⟨_,h2⟩|⟨h1,_⟩)|⟨h1,_⟩
    ·simp only at h2
     subst h2;simpa using p2
    ·cases h1
    ·cases h1
   ·have:=(ha (true,v) (by simp)).1
    cases this
  |false=>
   simp only[dO,bN]at hs;obtain⟨a1,a2⟩:=LC (j:= .f v.toNat) (nj:=T) h hd Bp hi;cases hb:bit (gQ i (.f v.toNat) T X) .null v.toNat with
   |true=>
    have e:bI T i ((false,v)::l) X=bI T i l (gQ i (.f v.toNat) T X):=by simp[bI,hb]
    rw[e];obtain⟨u1,u2⟩:=ih hin.tail _ a1.dw;refine⟨a1.trans u1,λhz=> ?_⟩;have e1:=u1.still hz;have e2:bit (gQ i (.f v.toNat) T X) .gr 0=false:=by rw[<-e1];exact hz
    have e3:=a1.still e2;obtain⟨c1,c2⟩:=u2 hz;rw[e3]at c1 c2 a2⊢;refine⟨λt ht hbg=> ?_,λha=>c2 λy hy=>ha y (by simp[hy])⟩;rcases Qc hbg with(⟨h1,_⟩|⟨_,h2⟩)|⟨_,_,h3⟩
    ·cases h1
    ·exact a2 t ht h2.2
    ·exact c1 t ht h3
   |false=>
    have e:bI T i ((false,v)::l) X=(gQ i (.f v.toNat) T X,false):=by simp[bI,hb]
    rw[e];refine⟨a1,λhz=> ?_⟩;have e3:=a1.still hz;rw[e3]at hb a2;refine⟨λt ht hbg=> ?_,λha=> ?_⟩
    ·rcases Qc hbg with(⟨h1,_⟩|⟨_,h2⟩)|⟨_,h2,_⟩
     ·cases h1
     ·exact a2 t ht h2.2
     ·have:=h2.2;simp only at this;rw[hb]at this;cases this
    ·have:=(ha (false,v) (by simp)).2.2;simp only at this;rw[hb]at this;cases this
def Zb(T N:Nat)(R:List Ru):Iy->Nat->Prop
 | .null,n=>fH N R n
 | .f n,t=>jG N R t n
 | .g n,t=>qZ T N R t n
 | .gr,_=>True
def ny(T N:Nat)(R:List Ru)(X:Xs):Prop:=∀i n m,bP T N i=some n->m<n->bit X i m=true->Zb T N R i m
variable{R:List Ru}
theorem Qd{X:Xs}{i:Iy}{n m:Nat}(h:kz T N X)(hd:bP T N i=some n)(hm:m<n)(hs:ny T N R X)(hz:Zb T N R i m):ny T N R (kY X i m):=by
 have hl:=h i n hd;have hg:=h .gr 1 rfl;cases hb:bit X i m with
 |true=>
  have e:kY X i m=X:=by simp[kY,hb]
  rw[e];exact hs
 |false=>
  have e:kY X i m=bH (bH X i m true) .gr 0 true:=by simp[kY,hb]
  rw[e];have hg':0<(bH X i m true .gr).length:=by rw[vw];omega
  intro j k q hj hq hbq;rw[jE hg',jE (by omega)]at hbq;by_cases c1:j= .gr/\q=0
  ·rw[c1.1];trivial
  ·rw[aj c1]at hbq
   by_cases c2:j=i/\q=m
   ·rw[c2.1,c2.2];exact hz
   ·rw[aj c2]at hbq
    exact hs j k q hj hq hbq
theorem XK{X:Xs}{i j:Iy}{n nj kj:Nat}(h:kz T N X)(hd:bP T N i=some n)(hle:nj<=n)(hi:i≠ .gr)(hdj:bP T N j=some kj)(hlj:nj<=kj)(hs:ny T N R X)(hz:∀m,m<nj->Zb T N R j m->Zb T N R i m):ny T N R (gQ i j nj X):=by
 induction nj with
 |zero=>exact hs
 |succ k ih=>
  have h1:=(LC (j:=j) (nj:=k) h hd (by omega) hi).1;have h2:=ih (by omega) (by omega) (λm hm=>hz m (by omega));have e:gQ i j (k+1) X=if bit (gQ i j k X) j k then kY (gQ i j k X) i k else gQ i j k X:=rfl
  rw[e];cases hb:bit (gQ i j k X) j k with
  |true=>
   simp only[bQ];exact Qd h1.dw hd (by omega) h2 (hz k (by omega) (h2 j kj k hdj (by omega) hb))
  |false=>simpa using h2
theorem XL{i:Iy}{n:Nat}(hd:bP T N i=some n)(Bp:T<=n)(hi:i≠ .gr):∀(l:List Sy),uS T N l->(∀q s,l[q]?=some s->mO (fH N R) (l.take q)->(s.1=true->Zb T N R i s.2.toNat)/\(s.1=false->∀t,t<T->Zb T N R (.f s.2.toNat) t->Zb T N R i t))->
 ∀X,kz T N X->ny T N R X->ny T N R (bI T i l X).1/\((bI T i l X).2=true->mO (fH N R) l):=by
 intro l
 induction l with
 |nil=>intro _ _ X _ hs;exact⟨hs,λ_ s hs=>by cases hs⟩
 |cons s l ih=>
  intro hin hz X h hs;have hr:=hin s (by simp);have hz0:=hz 0 s (by simp) (by intro x hx;simp at hx);obtain⟨b,v⟩:=s;cases b with
  |true=>
   simp only[bQ]at hr;have e:bI T i ((true,v)::l) X=(kY X i v.toNat,false):=by simp[bI]
   rw[e];exact⟨Qd h hd (by omega) hs (hz0.1 rfl),λh=>by cases h⟩
  |false=>
   simp only[dO,bN]at hr;have hdj:bP T N (.f v.toNat)=some T:=by simp[bP];omega
   have a1:=(LC (j:= .f v.toNat) (nj:=T) h hd Bp hi).1;have a2:=XK (nj:=T) h hd Bp hi hdj (ah _) hs (hz0.2 rfl);cases hb:bit (gQ i (.f v.toNat) T X) .null v.toNat with
   |true=>
    have e:bI T i ((false,v)::l) X=bI T i l (gQ i (.f v.toNat) T X):=by simp[bI,hb]
    rw[e]
    have zx:fH N R v:=by
     have:=a2 .null N v.toNat rfl (by omega) hb;have e:((v.toNat:Nat):Int)=v:=by omega
     simp only[Zb,e]at this;exact this
    have XM:∀x,x=((false,v):Sy)->x.1=false/\fH N R x.2:=λx hx=>by subst hx;exact⟨rfl,zx⟩
    obtain⟨c1,c2⟩:=ih hin.tail (λq x hx ha=>hz (q+1) x (by simpa using hx) (λy hy=>by
     simp only[List.take_succ_cons,iW]at hy;rcases hy with hy|hy
     ·exact XM y hy
     ·exact ha y hy)) _ a1.dw a2
    refine⟨c1,λh2 y hy=> ?_⟩;rcases iW.1 hy with hy|hy
    ·exact XM y hy
    ·exact c2 h2 y hy
   |false=>
    have e:bI T i ((false,v)::l) X=(gQ i (.f v.toNat) T X,false):=by simp[bI,hb]
    rw[e];exact⟨a2,λh=>by cases h⟩
end
section
variable{T N:Nat}
theorem XO{L:Nat}{l:List Sy}(hL:L<N)(hin:uS T N l){X:Xs}(h:kz T N X):Up T N X (lQ T L l X)/\
 (bit (lQ T L l X) .gr 0=false->(∀t,t<T->mP (tT X) (CF X t) t l->bit X (.f L) t=true)/\(mO (tT X) l->bit X .null L=true)):=by
 have hd:bP T N (.f L)=some T:=by simp[bP,hL]
 obtain⟨u1,u2⟩:=LD hd (ah _) (by simp) l hin X h;cases hb:(bI T (.f L) l X).2 with
 |true=>
  have e:lQ T L l X=kY (bI T (.f L) l X).1 .null L:=by simp[lQ,hb]
  obtain⟨p1,p2⟩:=Qb (i:= .null) (n:=N) u1.dw rfl hL (by simp);rw[e];refine⟨u1.trans p1,λhz=> ?_⟩;have e1:=p1.still hz;rw[e1]at hz p2;obtain⟨c1,_⟩:=u2 hz;rw[u1.still hz]at p2;exact⟨c1,λ_=>p2⟩
 |false=>
  have e:lQ T L l X=(bI T (.f L) l X).1:=by simp[lQ,hb]
  rw[e];refine⟨u1,λhz=> ?_⟩;obtain⟨c1,c2⟩:=u2 hz;exact⟨c1,λha=>by rw[c2 ha]at hb;cases hb⟩
theorem XP{l:List Sy}{k:Nat}(hk:k<l.length):l.getD k (false,0)∈l:=by simp[List.getD,hk]
theorem LF{L k:Nat}{l:List Sy}(hL:L<N)(hin:uS T N l)(hk:k<l.length){X:Xs}(h:kz T N X):Up T N X (qJ T L l k X)/\
 (bit (qJ T L l k X) .gr 0=false->∀v,l[k]?=some (false,v)->(∀t,t<T->mP (tT X) (CF X t) t (l.drop (k+1))->bit X (.g v.toNat) t=true)/\
   (mO (tT X) (l.drop (k+1))->∀t,t<T+1->bit X (.g L) t=true->bit X (.g v.toNat) t=true)):=by
 have hs:=hin _ (XP hk);have oM:l[k]?=some (l.getD k (false,0)):=by simp[List.getD,hk]
 unfold qJ;obtain⟨⟨b,v⟩,hsy⟩:=af (l.getD k (false,0));rw[hsy]at hs oM⊢;cases b with
 |true=>
  simp only[bQ];exact⟨Up.refl h,λ_ v' hv=>by rw[oM]at hv;cases hv⟩
 |false=>
  simp only[dO,bN]at hs⊢;have hd:bP T N (.g v.toNat)=some (T+1):=by simp[bP];omega
  have XQ:bP T N (.g L)=some (T+1):=by simp[bP];omega
  obtain⟨u1,u2⟩:=LD hd (by omega) (by simp) (l.drop (k+1)) (hin.drop _) X h;cases hb:(bI T (.g v.toNat) (l.drop (k+1)) X).2 with
  |true=>
   simp only[bQ];obtain⟨a1,a2⟩:=LC (j:= .g L) (nj:=T+1) u1.dw hd (ah _) (by simp);refine⟨u1.trans a1,λhz v' hv=> ?_⟩;rw[oM]at hv;cases hv;have e1:=a1.still hz;rw[e1]at hz a2;obtain⟨c1,_⟩:=u2 hz;rw[u1.still hz]at a2;exact⟨c1,λ_=>a2⟩
  |false=>
   simp only[dO,bN];refine⟨u1,λhz v' hv=> ?_⟩;rw[oM]at hv;cases hv;obtain⟨c1,c2⟩:=u2 hz;exact⟨c1,λha=>by rw[c2 ha]at hb;cases hb⟩
theorem Qe{n:Nat}{f:Nat->Xs->Xs}(hf:∀k,k<n->∀Y,kz T N Y->Up T N Y (f k Y)){X:Xs}(h:kz T N X):Up T N X (bf n f X)/\
 (bit (bf n f X) .gr 0=false->∀k,k<n->bit (f k X) .gr 0=false):=by
 induction n with
 |zero=>exact⟨Up.refl h,λ_ k hk=>absurd hk (iI _)⟩
 |succ n ih=>
  obtain⟨h1,h2⟩:=ih λk hk=>hf k (by omega);have h3:=hf n (by omega) _ h1.dw;refine⟨h1.trans h3,λhz k hk=> ?_⟩;have hz':bit (f n (bf n f X)) .gr 0=false:=hz;have e1:=h3.still hz';have hz1:bit (bf n f X) .gr 0=false:=by rw[<-e1];exact hz'
  rcases fJ.1 hk with hk|rfl
  ·exact h2 hz1 k hk
  ·rw[h1.still hz1]at hz'
   exact hz'
structure Held(T:Nat)(r:Ru)(X:Xs):Prop where
 null:mO (tT X) r.2->bit X .null r.1.toNat=true
 first:∀t,t<T->mP (tT X) (CF X t) t r.2->bit X (.f r.1.toNat) t=true
 after:∀k v,r.2[k]?=some (false,v)->∀t,t<T->mP (tT X) (CF X t) t (r.2.drop (k+1))->bit X (.g v.toNat) t=true
 follow:∀k v,r.2[k]?=some (false,v)->mO (tT X) (r.2.drop (k+1))->∀t,t<T+1->bit X (.g r.1.toNat) t=true->bit X (.g v.toNat) t=true
structure xW(T N:Nat)(r:Ru):Prop where
 left:0<=r.1/\r.1<(N:Int)
 right:uS T N r.2
theorem Qf{r:Ru}(hr:xW T N r){X:Xs}(h:kz T N X):Up T N X (zI T r X)/\(bit (zI T r X) .gr 0=false->Held T r X):=by
 have hL:r.1.toNat<N:=by have:=hr.left;omega
 obtain⟨a1,a2⟩:=XO hL hr.right h;obtain⟨b1,b2⟩:=Qe (n:=r.2.length) (f:=qJ T r.1.toNat r.2) (λk hk Y hY=>(LF hL hr.right hk hY).1) a1.dw;refine⟨a1.trans b1,λhz=> ?_⟩;have hz':bit (bf r.2.length (qJ T r.1.toNat r.2) (lQ T r.1.toNat r.2 X)) .gr 0=false:=hz;have e1:=b1.still hz';have hz1:bit (lQ T r.1.toNat r.2 X) .gr 0=false:=by rw[<-e1];exact hz'
 obtain⟨c1,c2⟩:=a2 hz1;have hs:=b2 hz';rw[a1.still hz1]at hs;have hlt:∀{k v},r.2[k]?=some (false,v)->k<r.2.length:=λh=>(qw.1 h).1;exact⟨c2,c1,λk v hv=>((LF hL hr.right (hlt hv) h).2 (hs k (hlt hv)) v hv).1,λk v hv=>((LF hL hr.right (hlt hv) h).2 (hs k (hlt hv)) v hv).2⟩
theorem afl{R:List Ru}(hR:∀q,q<R.length->xW T N (R.getD q (0,[]))){X:Xs}(h:kz T N X):Up T N X (EL T R R.length X)/\
 (bit (EL T R R.length X) .gr 0=false->∀q,q<R.length->Held T (R.getD q (0,[])) X):=by
 obtain⟨b1,b2⟩:=Qe (n:=R.length) (f:=λq=>zI T (R.getD q (0,[]))) (λq hq Y hY=>(Qf (hR q hq) hY).1) h;exact⟨b1,λhz q hq=>(Qf (hR q hq) h).2 (b2 hz q hq)⟩
end
section
variable{T N:Nat}{R:List Ru}
theorem Br{v:Int}(h:0<=v):((v.toNat:Nat):Int)=v:=by omega
theorem afm(hf:dD T N R){r:Ru}(hr:xW T N r)(hm:r∈R){X:Xs}(h:kz T N X)(hs:ny T N R X):ny T N R (lQ T r.1.toNat r.2 X):=by
 have hL:r.1.toNat<N:=by have:=hr.left;omega
 have hd:bP T N (.f r.1.toNat)=some T:=by simp[bP,hL]
 have ec:=Br hr.left.1
 obtain⟨p1,p2⟩:=XL (R:=R) hd (ah _) (by simp) r.2 hr.right (λq s hq ha=>⟨λhb=>by
  have hsr:=hr.right s (ou hq);show jG N R _ _;rw[ec,Br hsr.1];exact oG (NW hf _ _) _ ⟨r,hm,rfl,q,s,hq,.inl ⟨hb,rfl⟩,ha⟩,λhb t _ hz=>by
  have hsr:=hr.right s (ou hq);show jG N R _ _;have hz':jG N R t s.2:=by have:jG N R t (s.2.toNat:Nat):=hz;rwa [Br hsr.1]at this
  rw[ec]
  exact oG (NW hf _ _) _ ⟨r,hm,rfl,q,s,hq,.inr ⟨hb,hz'⟩,ha⟩⟩) X h hs
 have u1:=(LD hd (ah _) (by simp) r.2 hr.right X h).1;unfold lQ;cases hb:(bI T (.f r.1.toNat) r.2 X).2 with
 |true=>
  simp only[bQ];refine Qd (i:= .null) u1.dw rfl hL p1 ?_;show fH N R _;rw[ec];exact oG (Ty hf) _ ⟨r,hm,rfl,p2 hb⟩
 |false=>simpa using p1
theorem afn(hf:dD T N R){r:Ru}(hr:xW T N r)(hm:r∈R){k:Nat}(hk:k<r.2.length){X:Xs}(h:kz T N X)(hs:ny T N R X):ny T N R (qJ T r.1.toNat r.2 k X):=by
 have hL:r.1.toNat<N:=by have:=hr.left;omega
 have ec:=Br hr.left.1;have hsr:=hr.right _ (XP hk);have oM:r.2[k]?=some (r.2.getD k (false,0)):=by simp[List.getD,hk]
 unfold qJ;obtain⟨⟨b,v⟩,hsy⟩:=af (r.2.getD k (false,0));rw[hsy]at hsr oM⊢;cases b with
 |true=>simpa using hs
 |false=>
  simp only[dO,bN]at hsr⊢;have ev:=Br hsr.1;have hd:bP T N (.g v.toNat)=some (T+1):=by simp[bP];omega
  have XQ:bP T N (.g r.1.toNat)=some (T+1):=by simp[bP];omega
  have u1:=(LD hd (by omega) (by simp) (r.2.drop (k+1)) (hr.right.drop _) X h).1
  obtain⟨p1,p2⟩:=XL (R:=R) hd (by omega) (by simp) (r.2.drop (k+1)) (hr.right.drop _) (λq s hq ha=>⟨λhb=>by
   have hx:=hr.right.drop _ s (ou hq);have hx2:=hx.2;rw[hb]at hx2;simp only[bQ]at hx2;show qZ T N R _ _;rw[ev,Br hx.1];exact oG (F8 hf _ _ _) _ (.inr ⟨r,hm,k,oM,.inl ⟨hx2,q,s,hq,.inl ⟨hb,rfl⟩,ha⟩⟩),λhb t ht hz=>by
   have hx:=hr.right.drop _ s (ou hq);show qZ T N R _ _;have hz':jG N R t s.2:=by have:jG N R t (s.2.toNat:Nat):=hz;rwa [Br hx.1]at this
   rw[ev]
   exact oG (F8 hf _ _ _) _ (.inr ⟨r,hm,k,oM,.inl ⟨by omega,q,s,hq,.inr ⟨hb,hz'⟩,ha⟩⟩)⟩) X h hs
  cases hb:(bI T (.g v.toNat) (r.2.drop (k+1)) X).2 with
  |true=>
   simp only[bQ];refine XK u1.dw hd (ah _) (by simp) XQ (ah _) p1 λt _ hz=> ?_;show qZ T N R _ _;have hz':qZ T N R t r.1:=by have:qZ T N R t (r.1.toNat:Nat):=hz;rwa [ec]at this
   rw[ev];exact oG (F8 hf _ _ _) _ (.inr ⟨r,hm,k,oM,.inr ⟨p2 hb,hz'⟩⟩)
  |false=>simpa using p1
theorem XR{n:Nat}{f:Nat->Xs->Xs}(hf:∀k,k<n->∀Y,kz T N Y->Up T N Y (f k Y))(hg:∀k,k<n->∀Y,kz T N Y->ny T N R Y->ny T N R (f k Y)){X:Xs}(h:kz T N X)(hs:ny T N R X):ny T N R (bf n f X):=by
 induction n with
 |zero=>exact hs
 |succ n ih=>
  have h1:=(Qe (n:=n) (f:=f) (λk hk=>hf k (by omega)) h).1;exact hg n (by omega) _ h1.dw (ih (λk hk=>hf k (by omega)) λk hk=>hg k (by omega))
theorem afo(hf:dD T N R)(hR:∀q,q<R.length->xW T N (R.getD q (0,[]))){X:Xs}(h:kz T N X)(hs:ny T N R X):ny T N R (EL T R R.length X):=by
 refine XR (λq hq Y hY=>(Qf (hR q hq) hY).1) (λq hq Y hY LG=> ?_) h hs;have hm:R.getD q (0,[])∈R:=by simp[List.getD,hq]
 have hr:=hR q hq;have hL:(R.getD q (0,[])).1.toNat<N:=by have:=hr.left;omega
 exact XR (λk hk Z hZ=>(LF hL hr.right hk hZ).1) (λk hk Z hZ hsZ=>afn hf hr hm hk hZ hsZ) (XO hL hr.right hY).1.dw (afm hf hr hm hY LG)
theorem Qg(hf:dD T N R){X:Xs}(h:kz T N X)(hs:ny T N R X)(hH:∀q,q<R.length->Held T (R.getD q (0,[])) X)(h0:bit X (.g 0) T=true):
 (∀n:Nat,n<N->(bit X .null n=true↔fH N R n))/\(∀n t:Nat,n<N->t<T->(bit X (.f n) t=true↔jG N R t n))/\(∀n t:Nat,n<N->t<T+1->(bit X (.g n) t=true↔qZ T N R t n)):=by
 have LH:∀r∈R,Held T r X:=λr hr=>by
  obtain⟨q,hq,rfl⟩:=kE hr;have e:R.getD q (0,[])=R[q]:=by simp[List.getD,hq]
  have:=hH q hq
  rwa [e]at this
 have range:∀{i:Iy} {n m:Nat},bP T N i=some n->bit X i m=true->m<n:=λ{i n m} hd hb=>by
  have:=Nz hb;rw[h i n hd]at this;exact this
 have nR:∀n,fH N R n->tT X n:=λn hn=>F7 (Tv R) (A:=tT X) (λn hn=>by
  obtain⟨r,hr,rfl,ha⟩:=hn
  exact⟨(hf.left r hr).1,(LH r hr).null ha⟩) N n hn
 have Qh:tT X=fH N R:=funext λn=>propext ⟨λhn=>by
  have:=hs .null N n.toNat rfl (range rfl hn.2) hn.2;have:fH N R (n.toNat:Nat):=this
  rwa [Br hn.1]at this,nR n⟩
 have rJ:∀t:Nat,t<T->∀n,jG N R t n->CF X t n:=λt ht n hn=>F7 (Tw R _ t) (A:=CF X t) (λn hn=>by
  obtain⟨r,hr,rfl,ha⟩:=hn
  exact⟨(hf.left r hr).1,(LH r hr).first t ht (by rw[Qh];exact ha)⟩) N n hn
 have afp:∀n t:Nat,n<N->t<T->bit X (.f n) t=true->jG N R t n:=λn t hn ht hb=>hs (.f n) T t (by simp[bP,hn]) ht hb
 have fol:∀t:Nat,t<T+1->∀n,qZ T N R t n->XJ X t n:=λt ht n hn=>F7 (Tx R _ _ T t) (A:=XJ X t) (λn hn=>by
  rcases hn with⟨rfl,hT⟩|⟨r,hr,k,hk,ha⟩
  ·obtain rfl:t=T:=by omega
   exact⟨su _,h0⟩
  ·have hv:=hf.name r hr _ (ou hk) rfl
   refine⟨hv.1,?_⟩;rcases ha with⟨a1,a2⟩|⟨a1,a2⟩
   ·refine(LH r hr).after k _ hk t (by omega) ?_
    rw[Qh];exact a2.mono λn hn=>rJ t (by omega) n hn
   ·exact(LH r hr).follow k _ hk (by rw[Qh];exact a1) t ht a2.2) N n hn
 refine⟨λn hn=>⟨λhb=>hs .null N n rfl hn hb,λhn'=> ?_⟩,λn t hn ht=>⟨afp n t hn ht,λhn'=> ?_⟩,λn t hn ht=>⟨λhb=>hs (.g n) (T+1) t (by simp[bP,hn]) ht hb,λhn'=> ?_⟩⟩
 ·simpa using (nR n hn').2
 ·simpa using (rJ t ht n hn').2
 ·simpa using (fol t ht n hn').2
end
section
variable{T N:Nat}
def CG(T N:Nat):List (Iy×Nat):=(List.range N).map (λn=>(.null,n))++(List.range N).flatMap (λn=>(List.range T).map λt=>(.f n,t))++(List.range N).flatMap (λn=>(List.range (T+1)).map λt=>(.g n,t))
def left(T N:Nat)(X:Xs):Nat:=((CG T N).filter λp=> !bit X p.1 p.2).length
theorem afq{i:Iy}{n m:Nat}(hi:i≠ .gr)(hd:bP T N i=some n)(hm:m<n):(i,m)∈CG T N:=by
 cases i with
 |gr=>exact absurd rfl hi
 |null=>simp only[bP,bM]at hd;subst hd;simp[CG,hm]
 |f q=>
  simp only[bP]at hd;split at hd
  ·cases hd;rename_i hq;simp[CG,hq,hm]
  ·cases hd
 |g q=>
  simp only[bP]at hd;split at hd
  ·cases hd;rename_i hq;simp[CG,hq,hm]
  ·cases hd
theorem afr{X Y:Xs}(h:Up T N X Y)(h1:bit X .gr 0=false)(h2:bit Y .gr 0=true):left T N Y<left T N X:=by
 obtain⟨i,m,n,a1,a2,a3,a4,a5⟩:=h.grew h1 h2;refine(filter_lt _ _ (λp hp=> ?_) (CG T N)).2 ⟨(i,m),afq a1 a2 a3,by simp[a4],by simp[a5]⟩;cases hb:bit X p.1 p.2 with
 |false=>rfl
 |true=>simp[h.up _ _ hb]at hp
theorem afs{X:Xs}{v:Bool}(h:kz T N X):left T N (bH X .gr 0 v)=left T N X:=by
 have hg:=h .gr 1 rfl;unfold left
 congr 1
 refine List.filter_congr λp hp=> ?_;rw[jE (by omega),aj];rintro ⟨e,_⟩;simp only[CG,iV,jP,Aa]at hp;rcases hp with(⟨_,_,rfl⟩|⟨_,_,_,_,rfl⟩)|⟨_,_,_,_,rfl⟩<;>cases e
end
end Go.Proofs.YthbifaoaiggooaaGreatDoor
namespace Go.Proofs.YthbifaoaiggooaaGreatDoor
open Go.RowKit
section
variable{T N:Nat}{nv:Value}{vf vg:Nat->Value}{gb:Nat}
structure Env(w:World)(B T N:Nat)(K:Nat->Prop)(gx sx:Nat)(rv nv fv gv:Value)(vf vg:Nat->Value)(R:List Ru):Prop where
 g2:w.cell? ⟨gx,2,none⟩=some rv
 s0:w.cell? ⟨sx,0,none⟩=some nv
 s1:w.cell? ⟨sx,1,none⟩=some fv
 s2:w.cell? ⟨sx,2,none⟩=some gv
 gK:¬K gx
 sK:¬K sx
 hr:aG w B rv R
 hF:kP w K N fv vf
 hG:kP w K N gv vg
theorem Env.kept{w w':World}{B:Nat}{K:Nat->Prop}{gx sx:Nat}{rv nv fv gv:Value}{R:List Ru}(h:Env w B T N K gx sx rv nv fv gv vf vg R)(hk:Kept K w w')(hB:∀b,K b->B<=b)(hs:B<=w.heap.size):Env w' B T N K gx sx rv nv fv gv vf vg R:=
 ⟨hk.cell h.gK h.g2,hk.cell h.sK h.s0,hk.cell h.sK h.s1,hk.cell h.sK h.s2,h.gK,h.sK,h.hr.below (hk.below hB hs),h.hF.kept hk,h.hG.kept hk⟩
theorem aft{w:World}{B gx sx qc:Nat}{qa:Option Addr}{rv fv gv:Value}{X:Xs}{R:List Ru}{r:Ru}(h:Bt w B (aK T N nv vf vg gb) X)(hB:B<=w.heap.size)(hE:Env w B T N (aK T N nv vf vg gb).K gx sx rv nv fv gv vf vg R)
 (yO:xW T N r) (h8:r.2.length<=8) (hT:T<=8) (hR:iy w B qa r.2) (hqc:r.2.length<=qc):
 Calls Tryz.prog 45 #[.agg #[.int .i64 r.1,.slice qa r.2.length qc],.func (.func 82) #[] #[.pointer (some ⟨gb,0,none⟩)],.pointer (some ⟨sx,0,none⟩)] w λe w'=>
  e= .returned (.tuple #[])/\Bt w' B (aK T N nv vf vg gb) (zI T r X)/\Kept (aK T N nv vf vg gb).K w w':=by
 obtain⟨L,Rt⟩:=r;obtain⟨hL,oF⟩:=yO;simp only at hL oF h8 hR hqc⊢;obtain⟨l,rfl⟩:∃l:Nat,L=l:=⟨L.toNat,by omega⟩;have Gh:l<N:=by omega
 obtain⟨na,nc,vX⟩:=Bt.slice (i:=Iy.null) (n:=N) h rfl;have CB:nv= .slice na N nc:=vX;obtain⟨fa,fc,tC⟩:=hE.hF.1;obtain⟨ga,gc,hgv⟩:=hE.hG.1;clear vX;subst CB;subst tC;subst hgv;have hK1:Kept (aK T N (.slice na N nc) vf vg gb).K w (w.alloc (.cells #[.int .i64 l,.slice qa Rt.length qc] 96)):=(Kept.refl _ _).alloc _;have hE1:=hE.kept hK1 (λb hb=>Bt.ge h hb) hB;have sW:=hR.below (hK1.below (λb hb=>Bt.ge h hb) hB);have ahead:=afi (w:=w.alloc (.cells #[.int .i64 l,.slice qa Rt.length qc] 96)) (B:=B) (lc:=qc) (L:=l) (gl:=N) (gc:=gc) (ga:=ga) (la:=qa) (l:=Rt) (Bt.alloc h _) (by simp;omega) Gh hE1.hF sW oF (by omega) (by omega);have HS:Hid (zI T ((l:Int),Rt) X=LB T l Rt (lQ T l Rt X)):=by show zI T ((l:Int),Rt) X=_;simp[zI]
 have s0:=hE1.s0;have s1:=hE1.s1;have s2:=hE1.s2;have AA:Hid (Env (w.alloc (.cells #[.int .i64 l,.slice qa Rt.length qc] 96)) B T N (aK T N (.slice na N nc) vf vg gb).K gx sx rv (.slice na N nc) (.slice fa N fc) (.slice ga N gc) vf vg R):=hE1;have HRt:Hid (uS T N Rt):=oF;have HRA:Hid (iy (w.alloc (.cells #[.int .i64 l,.slice qa Rt.length qc] 96)) B qa Rt):=sW;have jb:Hid (Kept (aK T N (.slice na N nc) vf vg gb).K w (w.alloc (.cells #[.int .i64 l,.slice qa Rt.length qc] 96))):=hK1;have HB:Hid (Bt w B (aK T N (.slice na N nc) vf vg gb) X):=h;clear hE hE1 hK1 oF hR sW h
 go_enter Tryz.func45,Tryz.ntmps45
 go_wp2_with
  (first
   |(go_at_call 46;refine ahead.mono ?_;rintro e w2 ⟨rfl,hB2,hK2⟩
     have q0:=hK2.cell AA.out.sK s0;have q1:=hK2.cell AA.out.sK s1;have q2:=hK2.cell AA.out.sK s2;have q3:=hK2.cell (p:=⟨w.heap.size,0,none⟩) (Bt.jD HB.out (ah _)) (v:= .int .i64 l) (by simp[go_sem]);have q4:=hK2.cell (p:=⟨w.heap.size,1,none⟩) (Bt.jD HB.out (ah _)) (v:= .slice qa Rt.length qc) (by simp[go_sem]);have hsz2:=hK2.size;have HB2:Hid (Bt w2 B (aK T N (.slice na N nc) vf vg gb) (lQ T l Rt X)):=hB2;have fQ:Hid (Kept (aK T N (.slice na N nc) vf vg gb).K (w.alloc (.cells #[.int .i64 l,.slice qa Rt.length qc] 96)) w2):=hK2;simp only[lU]at hsz2
     clear hB2 hK2 ahead s0 s1 s2)
   |(go_at_call 47
     refine(afk (B:=B) (T:=T) (N:=N) (vf:=vf) (vg:=vg) (gb:=gb) (X:=lQ T l Rt X) (l:=Rt) HB2.out ?_ Gh hqc (AA.out.kept fQ.out ?_ ?_).hF (AA.out.kept fQ.out ?_ ?_).hG (HRA.out.below (fQ.out.below ?_ ?_)) HRt.out ?_ ?_).mono ?_
     ·omega
     ·exact λb hb=>Bt.ge HB.out hb
     ·simp;omega
     ·exact λb hb=>Bt.ge HB.out hb
     ·simp;omega
     ·exact λb hb=>Bt.ge HB.out hb
     ·simp;omega
     ·omega
     ·omega
     rintro e w3 ⟨rfl,hB3,hK3⟩))
 go_end0
 exact⟨rfl,by rw[HS.out];exact hB3,(jb.out.trans fQ.out).trans hK3⟩
structure qi(T N:Nat)(R:List Ru)(X:Xs):Prop where
 dw:kz T N X
 snd:ny T N R X
 held:bit X .gr 0=false->∀q,q<R.length->Held T (R.getD q (0,[])) X
 fin:bit X (.g 0) T=true
def nV(T N:Nat)(X:Xs):Nat:=2*left T N X+if bit X .gr 0 then 1 else 0
theorem qi.next{R:List Ru}(hf:dD T N R)(hR:∀q,q<R.length->xW T N (R.getD q (0,[]))){X:Xs}(h:qi T N R X)(hg:bit X .gr 0=true):
 qi T N R (EL T R R.length (bH X .gr 0 false))/\nV T N (EL T R R.length (bH X .gr 0 false))<nV T N X:=by
 have hl:=h.dw .gr 1 rfl;have s1:kz T N (bH X .gr 0 false):=λi n hd=>by rw[vw];exact h.dw i n hd
 have n1:ny T N R (bH X .gr 0 false):=λi n m hd hm hb=>by
  rw[jE (by omega)]at hb;by_cases c:i= .gr/\m=0
  ·rw[au c]at hb;cases hb
  ·rw[aj c]at hb;exact h.snd i n m hd hm hb
 have g1:bit (bH X .gr 0 false) .gr 0=false:=by rw[jE (by omega)];simp
 have f1:bit (bH X .gr 0 false) (.g 0) T=true:=by rw[jE (by omega),aj (by simp)];exact h.fin
 obtain⟨u1,u2⟩:=afl hR s1;refine⟨⟨u1.dw,afo hf hR s1 n1,λhz=> ?_,u1.up _ _ f1⟩,?_⟩
 ·rw[u1.still hz];exact u2 hz
 ·have e:=afs (v:=false) h.dw
  unfold nV;rw[hg];cases hz:bit (EL T R R.length (bH X .gr 0 false)) .gr 0 with
  |true=>have:=afr u1 g1 hz;simp only[bQ];omega
  |false=>rw[u1.still hz];simp only[bQ,dO,bN];omega
theorem afu{w:World}{B gx sx:Nat}{rv fv gv:Value}{X:Xs}{R:List Ru}(h:Bt (w.alloc (.cells #[.bool true] 4)) B (aK T N nv vf vg w.heap.size) X)(hB:B<=w.heap.size)
 (hE:Env (w.alloc (.cells #[.bool true] 4)) B T N (aK T N nv vf vg w.heap.size).K gx sx rv nv fv gv vf vg R) (hf:dD T N R) (hR:∀q,q<R.length->xW T N (R.getD q (0,[]))/\(R.getD q (0,[])).2.length<=8) (hT:T<=8) (BX:R.length<=40) (hA:qi T N R X):
 Calls Tryz.prog 44 #[rv,.func (.func 45) #[] #[.pointer (some ⟨sx,0,none⟩)]] w λe w'=>
  e= .returned (.tuple #[])/\∃Y,qi T N R Y/\bit Y .gr 0=false/\Bt w' B (aK T N nv vf vg w.heap.size) Y/\Kept (aK T N nv vf vg w.heap.size).K (w.alloc (.cells #[.bool true] 4)) w':=by
 refine P6 (f:=zI T) (nV:=nV T N) h hB (P9 _ _ _ _ _ _) hE.hr (by omega) (λk hk w1 Y qa qc hK nA IC hqc=> ?_) (λargs w=>by simp[callFunc,Tryz.func45,Tryz.f45 ]) hA (λY hY hg=>hY.next hf (λq hq=>(hR q hq).1) hg);have e:∀a b c:Value,#[a,b]++ #[c]= #[a,b,c]:=λa b c=>by simp
 rw[e];have hs:=hK.size;simp only[lU]at hs;exact aft nA (by omega) (hE.kept hK (λb hb=>Bt.ge h hb) (by simp;omega)) (hR k hk).1 (hR k hk).2 hT IC hqc
end
def qK:Iy->Option Ix
 | .null=>some .null
 | .gr=>none
 | .f n=>some (.f n)
 | .g n=>some (.g n)
def tabs(Nu:List Bool)(Fi Fo:List (List Bool)):Xs
 | .null=>Nu
 | .gr=>[true]
 | .f n=>Fi.getD n []
 | .g n=>Fo.getD n []
section
variable{w:World}{B sb T N:Nat}{nv fv gv:Value}{vf vg:Nat->Value}{Nu:List Bool}{Fi Fo:List (List Bool)}
theorem Qi(gb:Nat)(i:Iy)(x:Ix)(hx:qK i=some x):(aK T N nv vf vg gb).P (tabs Nu Fi Fo) i=bZ sb T N N N nv fv gv vf vg Nu Fi Fo x:=by
 cases i with
 |gr=>cases hx
 |null=>cases hx;rfl
 |f n=>cases hx;simp only[eP.P,aK,bP,bZ,tabs];split<;>rfl
 |g n=>cases hx;simp only[eP.P,aK,bP,bZ,tabs];split<;>rfl
theorem afv(h:aA w B (bZ sb T N N N nv fv gv vf vg Nu Fi Fo))(hB:B<=w.heap.size):Bt (w.alloc (.cells #[.bool true] 4)) B (aK T N nv vf vg w.heap.size) (tabs Nu Fi Fo):=by
 have row:∀i x r,qK i=some x->(aK T N nv vf vg w.heap.size).P (tabs Nu Fi Fo) i=some r->bZ sb T N N N nv fv gv vf vg Nu Fi Fo x=some r:=λi x r hx hr=>(Qi (sb:=sb) (fv:=fv) (gv:=gv) w.heap.size i x hx).symm.trans hr;have gr:∀r,(aK T N nv vf vg w.heap.size).P (tabs Nu Fi Fo) .gr=some r->r=⟨.slice (some ⟨w.heap.size,0,none⟩) 1 1,4,1,1,[.bool true]⟩:=λr hr=>by cases hr;rfl
 have LJ:∀i,qK i=none->i= .gr:=λi hi=>by cases i<;>first|rfl|cases hi
 refine⟨λi r hr=> ?_,λi j a b hij ha hb g h1 h2=> ?_⟩
 ·cases hx:qK i with
  |some x=>exact(h.own x r (row i x r hx hr)).alloc _
  |none=>
   obtain rfl:=LJ i hx;obtain rfl:=gr r hr;have:=sM (base:=B) (e:=4) (size:=1) w #[.bool true] 1 hB (by unfold maxLen;omega) rfl;simpa using this
 ·cases hx:qK i with
  |some x=>
   have l1:=(h.lt (row i x a hx ha) h1).2;cases hy:qK j with
   |some y=>
    refine h.apart x y a b (λe=>hij ?_) (row i x a hx ha) (row j y b hy hb) g h1 h2;subst e;cases i<;>cases j<;>simp[qK]at hx hy<;>subst hx<;>simp_all
   |none=>
    obtain rfl:=LJ j hy;obtain rfl:=gr b hb;simp only[Value.ownBlock,bM]at h2;omega
  |none=>
   obtain rfl:=LJ i hx;obtain rfl:=gr a ha;simp only[Value.ownBlock,bM]at h1;cases hy:qK j with
   |some y=>
    have l1:=(h.lt (row j y b hy hb) h2).2;omega
   |none=>exact hij (LJ j hy).symm
theorem XT(h:aA w B (bZ sb T N N N nv fv gv vf vg Nu Fi Fo)){x:Ix}{r:Row}(hx:bZ sb T N N N nv fv gv vf vg Nu Fi Fo x=some r)(hn:∀i,qK i≠some x){g:Nat}(hg:r.v.ownBlock=some g):¬(aK T N nv vf vg w.heap.size).K g:=by
 rintro ⟨i,n,hd,hb⟩;cases hi:qK i with
 |some y=>
  have hP:(aK T N nv vf vg w.heap.size).P (tabs Nu Fi Fo) i=some ⟨(aK T N nv vf vg w.heap.size).V i,4,1,n,(tabs Nu Fi Fo i).map Value.bool⟩:=eP.BU hd;rw[Qi (sb:=sb) (fv:=fv) (gv:=gv) _ i y hi]at hP;exact h.apart y x _ _ (λe=>hn i (e▸hi)) hP hx g hb hg
 |none=>
  cases i<;>simp[qK]at hi;have:=(h.lt hx hg).2;simp only[aK,Value.ownBlock,bM]at hb;omega
theorem afw(h:aA w B (bZ sb T N N N nv fv gv vf vg Nu Fi Fo))(o:Obj):kP (w.alloc o) (aK T N nv vf vg w.heap.size).K N fv vf:=by
 have hh:w.ownsRow B 61 1 fv N ((List.range N).map vf):=h.own .fh _ rfl;refine⟨cO hh,λn hn=> ?_⟩;obtain⟨g,cap,hv,_,hlt⟩:=hh.form (by omega);refine⟨g,cap,hv,XT h (x:= .fh) rfl (λi=>by cases i<;>simp[qK]) (by simp only;rw[hv];rfl),?_⟩;rw[dB _ _ _ hlt];rw[hv]at hh;rw[hh.cellAt n (by omega)];simp[hn]
theorem afx(h:aA w B (bZ sb T N N N nv fv gv vf vg Nu Fi Fo))(o:Obj):kP (w.alloc o) (aK T N nv vf vg w.heap.size).K N gv vg:=by
 have hh:w.ownsRow B 61 1 gv N ((List.range N).map vg):=h.own .gh _ rfl;refine⟨cO hh,λn hn=> ?_⟩;obtain⟨g,cap,hv,_,hlt⟩:=hh.form (by omega);refine⟨g,cap,hv,XT h (x:= .gh) rfl (λi=>by cases i<;>simp[qK]) (by simp only;rw[hv];rfl),?_⟩;rw[dB _ _ _ hlt];rw[hv]at hh;rw[hh.cellAt n (by omega)];simp[hn]
theorem afy{i:Iy}{m:Nat}(hi:i≠ .gr):bit (tabs (List.replicate N false) (List.replicate N (List.replicate T false)) (List.replicate N (List.replicate (T+1) false))) i m=false:=by
 have lI:∀(n k:Nat),(List.replicate n false).getD k false=false:=λn k=>by
  by_cases h:k<n
  ·simp[List.getD,h]
  ·simp[List.getD,List.getElem?_eq_none (show (List.replicate n false).length<=k by simp;omega)]
 have XU:∀(n q k j:Nat),((List.replicate n (List.replicate q false)).getD k []).getD j false=false:=λn q k j=>by
  by_cases h:k<n
  ·have:(List.replicate n (List.replicate q false)).getD k []=List.replicate q false:=by simp[List.getD,h]
   rw[this];exact lI _ _
  ·have:(List.replicate n (List.replicate q false)).getD k []=[]:=by simp[List.getD,List.getElem?_eq_none (show (List.replicate n (List.replicate q false)).length<=k by simp;omega)]
   rw[this];simp
 cases i with
 |gr=>exact absurd rfl hi
 |null=>exact lI _ _
 |f n=>exact XU _ _ _ _
 |g n=>exact XU _ _ _ _
theorem afz:tabs Nu Fi (set2 Fo 0 T)=if 0<Fo.length then bH (tabs Nu Fi Fo) (.g 0) T true else tabs Nu Fi Fo:=by
 funext i
 cases i with
 |g n=>
  simp only[tabs];rw[GX];by_cases h:0<Fo.length
  ·rw[au h]
   by_cases hn:n=0
   ·subst hn;rw[au ⟨rfl,h⟩];simp[bH,tabs]
   ·rw[aj (λe=>hn e.1)];simp[bH,tabs,hn]
  ·rw[aj h,aj (λe=>h e.2)];rfl
 |_=>split<;>simp[tabs,bH]
theorem afA{R:List Ru}(hf:dD T N R):qi T N R (tabs (List.replicate N false) (List.replicate N (List.replicate T false)) (set2 (List.replicate N (List.replicate (T+1) false)) 0 T)):=by
 have h1:=hf.some;have e:=afz (T:=T) (Nu:=List.replicate N false) (Fi:=List.replicate N (List.replicate T false)) (Fo:=List.replicate N (List.replicate (T+1) false));rw[au (by simp;omega)]at e;rw[e];have hlen:(tabs (List.replicate N false) (List.replicate N (List.replicate T false)) (List.replicate N (List.replicate (T+1) false)) (.g 0)).length=T+1:=by simp[tabs,List.getD,show 0<N by omega]
 have hb:∀i m,bit (bH (tabs (List.replicate N false) (List.replicate N (List.replicate T false)) (List.replicate N (List.replicate (T+1) false))) (.g 0) T true) i m=if i= .g 0/\m=T then true else bit (tabs (List.replicate N false) (List.replicate N (List.replicate T false)) (List.replicate N (List.replicate (T+1) false))) i m:=λi m=>jE (by omega)
 refine⟨λi n hd=> ?_,λi n m hd hm hbt=> ?_,λhz=> ?_,by rw[hb];simp⟩
 ·rw[vw]
  cases i with
  |null=>cases hd;simp[tabs]
  |gr=>cases hd;rfl
  |f q=>simp only[bP]at hd;split at hd<;>cases hd;rename_i hq;simp[tabs,List.getD,hq]
  |g q=>simp only[bP]at hd;split at hd<;>cases hd;rename_i hq;simp[tabs,List.getD,hq]
 ·rw[hb]at hbt
  by_cases c:i= .g 0/\m=T
  ·obtain⟨rfl,rfl⟩:=c
   exact oG (F8 hf _ _ _) _ (.inl ⟨rfl,rfl⟩)
  ·rw[aj c]at hbt
   by_cases hg:i= .gr
   ·subst hg;trivial
   ·rw[afy hg]at hbt;cases hbt
 ·rw[hb,aj (by simp)]at hz
  simp[bit,tabs]at hz
end
theorem LK{T N:Nat}{R:List Ru}(h:aJ T N R=true):dD T N R/\∀q,q<R.length->xW T N (R.getD q (0,[]))/\(R.getD q (0,[])).2.length<=8:=by
 obtain⟨_,h1,_,_,h5⟩:=iD h
 have mem:∀r∈R,0<=r.1/\r.1<(N:Int)/\∀s∈r.2,0<=s.2/\s.2<if s.1 then (T:Int) else (N:Int):=λr hr=>by
  obtain⟨q,hq,rfl⟩:=kE hr;have e:R.getD q (0,[])=R[q]:=by simp[List.getD,hq]
  have:=h5 q hq;rw[e]at this;exact⟨this.1,this.2.1,this.2.2.2⟩
 refine⟨⟨λr hr=>⟨(mem r hr).1,(mem r hr).2.1⟩,λr hr s hs hb=> ?_,λr hr s hs hb=> ?_,h1⟩,λq hq=>⟨⟨⟨(h5 q hq).1,(h5 q hq).2.1⟩,(h5 q hq).2.2.2⟩,(h5 q hq).2.2.1⟩⟩
 ·have:=(mem r hr).2.2 s hs;rw[hb]at this;simpa using this
 ·have:=(mem r hr).2.2 s hs;rw[hb]at this;simpa using this
theorem afB{w:World}{T N:Nat}{ra:Option Addr}{rl rc:Nat}(hT:T<=8)(hN:N<=12):
 Calls Tryz.prog 43 #[.agg #[.int .i64 T,.int .i64 N,.slice ra rl rc]] w λe w'=> ∃nv fv gv vf vg sb,e= .returned (.agg #[nv,fv,gv])/\Below w.heap.size w w'/\
  aA w' (w.heap.size+2) (bZ sb T N N N nv fv gv vf vg (List.replicate N false) (List.replicate N (List.replicate T false)) (List.replicate N (List.replicate (T+1) false))):=by
 have Ap:=Eg N (by omega);have XV:=Eg T (by omega);have LM:=Eg (T+1) (by omega)
 go_enter Tryz.func43,Tryz.ntmps43
 go_wp2_with fail
 have HS:=adm w T N (by unfold maxLen;omega) (.cells #[.int .i64 T,.int .i64 N,.slice ra rl rc] 27) (.cells #[.slice none 0 0,.slice none 0 0,.slice none 0 0] 64)
 have boxes:∀wr,Below (w.heap.size+2) ((w.alloc (.cells #[.int .i64 T,.int .i64 N,.slice ra rl rc] 27)).alloc (.cells #[.slice none 0 0,.slice none 0 0,.slice none 0 0] 64)) wr->Below w.heap.size w wr/\wr.cell? ⟨w.heap.size,0,none⟩=some (.int .i64 T)/\wr.cell? ⟨w.heap.size,1,none⟩=some (.int .i64 N)/\wr.cell? ⟨w.heap.size,2,none⟩=some (.slice ra rl rc):=λwr hB=>
  ⟨(((ai _ _).alloc (ah _) _).alloc (by simp) _).trans (hB.mono (by omega)),(hB.cell (by simp)).trans (by simp[go_sem]),(hB.cell (by simp)).trans (by simp[go_sem]),(hB.cell (by simp)).trans (by simp[go_sem])⟩
 have vI:Hid (∀wr,Below (w.heap.size+2) ((w.alloc (.cells #[.int .i64 T,.int .i64 N,.slice ra rl rc] 27)).alloc (.cells #[.slice none 0 0,.slice none 0 0,.slice none 0 0] 64)) wr->Below w.heap.size w wr/\wr.cell? ⟨w.heap.size,0,none⟩=some (.int .i64 T)/\wr.cell? ⟨w.heap.size,1,none⟩=some (.int .i64 N)/\wr.cell? ⟨w.heap.size,2,none⟩=some (.slice ra rl rc)):=boxes;clear boxes Ap
 go_loopw [10] (λi wr=> ∃m:Nat,i= .int .i64 m/\m<=N/\SR ((w.alloc (.cells #[.int .i64 T,.int .i64 N,.slice ra rl rc] 27)).alloc (.cells #[.slice none 0 0,.slice none 0 0,.slice none 0 0] 64)) (w.heap.size+2) (w.heap.size+1+1+1) T N m m (List.replicate N false) (List.replicate m (List.replicate T false)) (List.replicate m (List.replicate (T+1) false)) wr)
  (λi _=>N-(intOf i).toNat)
 case atStart=>exact⟨0,rfl,aP _,HS⟩
 case round=>
  clear HS;obtain⟨m,rfl,hmN,hB,hle,Ei,LP,nv,fv,gv,vf,vg,hO⟩:=hrel;have HB:Hid (Below (w.heap.size+2) ((w.alloc (.cells #[.int .i64 T,.int .i64 N,.slice ra rl rc] 27)).alloc (.cells #[.slice none 0 0,.slice none 0 0,.slice none 0 0] 64)) wr):=hB;have HO:Hid (aA wr (w.heap.size+2) (bZ (w.heap.size+1+1+1) T N m m nv fv gv vf vg (List.replicate N false) (List.replicate m (List.replicate T false)) (List.replicate m (List.replicate (T+1) false)))):=hO;obtain⟨_,b0,b1,_⟩:=vI.out wr hB;have hsb:w.heap.size+1+1+1<wr.heap.size:=aQ wr _ hO.fields.1;clear hB hO;by_cases hlt:m<N
  ·obtain⟨fa,fc,rfl⟩:∃a c,fv= .slice a m c:=cO (HO.out.own .fh _ rfl)
   obtain⟨ga,gc,rfl⟩:∃a c,gv= .slice a m c:=cO (HO.out.own .gh _ rfl)
   go_upto_region 5 with fail
   go_cut [] from 11 to 29 (λwx=>SR ((w.alloc (.cells #[.int .i64 T,.int .i64 N,.slice ra rl rc] 27)).alloc (.cells #[.slice none 0 0,.slice none 0 0,.slice none 0 0] 64)) (w.heap.size+2) (w.heap.size+1+1+1) T N (m+1) m (List.replicate N false) (List.replicate (m+1) (List.replicate T false)) (List.replicate m (List.replicate (T+1) false)) wx)
   case first=>
    obtain⟨i0,hi0,hz0,hz1,hz2⟩:=fK Tryz.infoBools;obtain⟨s0,s1,s2,sf⟩:=HO.out.fields;obtain⟨t0,t1,t2,tf⟩:=(HO.out.alloc (.cells (madeCells #[.bool false] T) 4)).fields;have hO2:=(HO.out.alloc (.cells (madeCells #[.bool false] T) 4)).alloc (.cells #[.slice (some ⟨wr.heap.size,0,none⟩) T T] 61);obtain⟨q0,q1,q2,qf⟩:=hO2.fields;have IE:((wr.alloc (.cells (madeCells #[.bool false] T) 4)).alloc (.cells #[.slice (some ⟨wr.heap.size,0,none⟩) T T] 61)).drew.ownsRow (w.heap.size+2) 61 1 (.slice fa m fc) m ((List.range m).map vf):=hO2.own .fh _ rfl;have c0:(wr.alloc (.cells (madeCells #[.bool false] T) 4)).cell? ⟨w.heap.size,0,none⟩=some (.int .i64 T):=by rw[dB _ _ _ (by omega)];exact b0
    have IG:(Value.slice fa m fc).ownBlock≠some (w.heap.size+1+1+1):=λe=>HO.out.apart .fh .st _ _ (by simp) rfl rfl _ e rfl
    have hnb:((wr.alloc (.cells (madeCells #[.bool false] T) 4)).alloc (.cells #[.slice (some ⟨wr.heap.size,0,none⟩) T T] 61)).drew.heap[wr.heap.size+1]?=some (.cells #[.slice (some ⟨wr.heap.size,0,none⟩) T T] 61 (0,0)):=by
     show ((wr.alloc (.cells (madeCells #[.bool false] T) 4)).alloc (.cells #[.slice (some ⟨wr.heap.size,0,none⟩) T T] 61)).heap[wr.heap.size+1]?=_;simpa using heap_alloc_new (wr.alloc (.cells (madeCells #[.bool false] T) 4)) (.cells #[.slice (some ⟨wr.heap.size,0,none⟩) T T] 61)
    have Qj:Hid (((wr.alloc (.cells (madeCells #[.bool false] T) 4)).alloc (.cells #[.slice (some ⟨wr.heap.size,0,none⟩) T T] 61)).drew.heap[wr.heap.size+1]?=some (.cells #[.slice (some ⟨wr.heap.size,0,none⟩) T T] 61 (0,0))):=hnb;clear hnb hO2 s0 s2 t0 t2 q0 q2 LM
    go_region_law
     ((refine wZ _ (by rfl) _ _ _ (by rfl) (w.heap.size+2) 61 i0 _ 1 24 Tryz.underlying62 hi0 hz0 hz1 hz2 rfl (by omega) (.slice fa m fc) m ((List.range m).map vf) (by rfl) IE
        ⟨wr.heap.size+1,0,none⟩ 1 1 [.slice (some ⟨wr.heap.size,0,none⟩) T T] (by rfl) (by rfl) (jh (cs:= #[.slice (some ⟨wr.heap.size,0,none⟩) T T]) (t:=61) (fr:=(0,0)) Qj.out) (by simp[Value.oneCell'])
        (by omega) (by unfold maxLen;omega) (by omega) (by simp;omega) (wr.heap.size+2) (by simp) ?_;intro g1 zC w1 hown1 hgrow1 Le hlt1
       have d1:=(hgrow1.cell_far ⟨w.heap.size+1+1+1,1,none⟩ (by simp;omega) (Ne.symm IG)).trans q1;have d2:=(hgrow1.frozen_far ⟨w.heap.size+1+1+1,1,none⟩ (by simp;omega) (Ne.symm IG)).trans (qf 1)))
    all_goals
     go_wp2_with fail
     go_meet
     case rel=>
      obtain⟨x1,x2⟩:=Vu (sb:=w.heap.size+1+1+1) (j:=1) (v:= .slice (some ⟨g1,0,none⟩) (m+1) zC) HB.out hle hgrow1 (λk hk=>(IE.lt k hk).1) (by omega)
      refine⟨x1,x2,by simp,by simp,_,_,_,_,_,by
       have:=HO.out.adk (by simp) hle (by unfold maxLen;omega) hgrow1 hown1 (by simpa using Le);rw[List.replicate_succ']
       exact this⟩
   case rest=>
    clear HB HO b0 b1 hle Ei LP hsb;obtain⟨hB,hle,Ei,LP,nv,fv,gv,vf,vg,hO⟩:=hcut;have HB:Hid (Below (w.heap.size+2) ((w.alloc (.cells #[.int .i64 T,.int .i64 N,.slice ra rl rc] 27)).alloc (.cells #[.slice none 0 0,.slice none 0 0,.slice none 0 0] 64)) wc):=hB;have HO:Hid (aA wc (w.heap.size+2) (bZ (w.heap.size+1+1+1) T N (m+1) m nv fv gv vf vg (List.replicate N false) (List.replicate (m+1) (List.replicate T false)) (List.replicate m (List.replicate (T+1) false)))):=hO;obtain⟨_,b0,b1,_⟩:=vI.out wc hB;have hsb:w.heap.size+1+1+1<wc.heap.size:=aQ wc _ hO.fields.1;clear hB hO;obtain⟨ga,gc,rfl⟩:∃a c,gv= .slice a m c:=cO (HO.out.own .gh _ rfl);obtain⟨i0,hi0,hz0,hz1,hz2⟩:=fK Tryz.infoBools;obtain⟨s0,s1,s2,sf⟩:=HO.out.fields;obtain⟨t0,t1,t2,tf⟩:=(HO.out.alloc (.cells (madeCells #[.bool false] (T+1)) 4)).fields;have hO2:=(HO.out.alloc (.cells (madeCells #[.bool false] (T+1)) 4)).alloc (.cells #[.slice (some ⟨wc.heap.size,0,none⟩) (T+1) (T+1)] 61);obtain⟨q0,q1,q2,qf⟩:=hO2.fields;have IE:((wc.alloc (.cells (madeCells #[.bool false] (T+1)) 4)).alloc (.cells #[.slice (some ⟨wc.heap.size,0,none⟩) (T+1) (T+1)] 61)).drew.ownsRow (w.heap.size+2) 61 1 (.slice ga m gc) m ((List.range m).map vg):=hO2.own .gh _ rfl;have c0:(wc.alloc (.cells (madeCells #[.bool false] (T+1)) 4)).cell? ⟨w.heap.size,0,none⟩=some (.int .i64 T):=by rw[dB _ _ _ (by omega)];exact b0
    have IG:(Value.slice ga m gc).ownBlock≠some (w.heap.size+1+1+1):=λe=>HO.out.apart .gh .st _ _ (by simp) rfl rfl _ e rfl
    have hnb:((wc.alloc (.cells (madeCells #[.bool false] (T+1)) 4)).alloc (.cells #[.slice (some ⟨wc.heap.size,0,none⟩) (T+1) (T+1)] 61)).drew.heap[wc.heap.size+1]?=some (.cells #[.slice (some ⟨wc.heap.size,0,none⟩) (T+1) (T+1)] 61 (0,0)):=by
     show ((wc.alloc (.cells (madeCells #[.bool false] (T+1)) 4)).alloc (.cells #[.slice (some ⟨wc.heap.size,0,none⟩) (T+1) (T+1)] 61)).heap[wc.heap.size+1]?=_;simpa using heap_alloc_new (wc.alloc (.cells (madeCells #[.bool false] (T+1)) 4)) (.cells #[.slice (some ⟨wc.heap.size,0,none⟩) (T+1) (T+1)] 61)
    have Qj:Hid (((wc.alloc (.cells (madeCells #[.bool false] (T+1)) 4)).alloc (.cells #[.slice (some ⟨wc.heap.size,0,none⟩) (T+1) (T+1)] 61)).drew.heap[wc.heap.size+1]?=some (.cells #[.slice (some ⟨wc.heap.size,0,none⟩) (T+1) (T+1)] 61 (0,0))):=hnb;have ajg:∀u:World,(Instr.makeSlice 61 (.int .i64 ((T:Int)+1)) (.int .i64 ((T:Int)+1))).run Tryz.prog u= .ok (.slice (some ⟨u.heap.size,0,none⟩) (T+1) (T+1)) (u.alloc (.cells (madeCells #[.bool false] (T+1)) 4)):=λu=>by simpa using LM u
    have hw:IntKind.i64.wrap ((T:Int)+1)=(T:Int)+1:=uE _ (by omega);clear hnb hO2 s0 s1 t0 t1 q0 q1 XV LM
    go_wp2_with fail
    go_region_law
     ((refine wZ _ (by rfl) _ _ _ (by rfl) (w.heap.size+2) 61 i0 _ 1 24 Tryz.underlying62 hi0 hz0 hz1 hz2 rfl (by omega) (.slice ga m gc) m ((List.range m).map vg) (by rfl) IE
        ⟨wc.heap.size+1,0,none⟩ 1 1 [.slice (some ⟨wc.heap.size,0,none⟩) (T+1) (T+1)] (by rfl) (by rfl) (jh (cs:= #[.slice (some ⟨wc.heap.size,0,none⟩) (T+1) (T+1)]) (t:=61) (fr:=(0,0)) Qj.out) (by simp[Value.oneCell'])
        (by omega) (by unfold maxLen;omega) (by omega) (by simp;omega) (wc.heap.size+2) (by simp) ?_;intro g1 zC w1 hown1 hgrow1 Le hlt1
       have d1:=(hgrow1.cell_far ⟨w.heap.size+1+1+1,2,none⟩ (by simp;omega) (Ne.symm IG)).trans q2;have d2:=(hgrow1.frozen_far ⟨w.heap.size+1+1+1,2,none⟩ (by simp;omega) (Ne.symm IG)).trans (qf 2)))
    all_goals
     go_wp2_with fail
     go_roundw
     case rel=>
      obtain⟨x1,x2⟩:=Vu (sb:=w.heap.size+1+1+1) (j:=2) (v:= .slice (some ⟨g1,0,none⟩) (m+1) zC) HB.out hle hgrow1 (λk hk=>(IE.lt k hk).1) (by omega)
      refine⟨m+1,by go_num,by omega,x1,x2,by simp,by simp,_,_,_,_,_,by
       have:=HO.out.adl (by simp) hle (by unfold maxLen;omega) hgrow1 hown1 (by simpa using Le);rw[List.replicate_succ' (n:=m) (a:=List.replicate (T+1) false)]
       exact this⟩
     case measure=>simp[intOf];omega
  ·have XW:m=N:=by omega
   have uJ:Hid (SR ((w.alloc (.cells #[.int .i64 T,.int .i64 N,.slice ra rl rc] 27)).alloc (.cells #[.slice none 0 0,.slice none 0 0,.slice none 0 0] 64)) (w.heap.size+2) (w.heap.size+1+1+1) T N N N (List.replicate N false) (List.replicate N (List.replicate T false)) (List.replicate N (List.replicate (T+1) false)) wr):=by
    subst XW;exact⟨HB.out,hle,Ei,LP,nv,fv,gv,vf,vg,HO.out⟩
   clear XV LM HB HO hle Ei LP hsb hmN XW b0;obtain⟨hB,hle,II,afC,nv,fv,gv,vf,vg,hO⟩:=uJ.out;have HB:Hid (Below (w.heap.size+2) ((w.alloc (.cells #[.int .i64 T,.int .i64 N,.slice ra rl rc] 27)).alloc (.cells #[.slice none 0 0,.slice none 0 0,.slice none 0 0] 64)) wr):=hB;have HO:Hid (aA wr (w.heap.size+2) (bZ (w.heap.size+1+1+1) T N N N nv fv gv vf vg (List.replicate N false) (List.replicate N (List.replicate T false)) (List.replicate N (List.replicate (T+1) false)))):=hO;obtain⟨s0,s1,s2,sf⟩:=hO.fields;obtain⟨na,nc,rfl⟩:∃a c,nv= .slice a N c:=cO (hO.own .null _ rfl);obtain⟨fa,fc,rfl⟩:∃a c,fv= .slice a N c:=cO (hO.own .fh _ rfl);obtain⟨ga,gc,rfl⟩:∃a c,gv= .slice a N c:=cO (hO.own .gh _ rfl);have r0:wr.cell? ⟨w.heap.size+1,0,none⟩=some (.slice none 0 0):=(hB.cell (by simp)).trans (by simp[go_sem]);have r1:wr.cell? ⟨w.heap.size+1,1,none⟩=some (.slice none 0 0):=(hB.cell (by simp)).trans (by simp[go_sem]);have r2:wr.cell? ⟨w.heap.size+1,2,none⟩=some (.slice none 0 0):=(hB.cell (by simp)).trans (by simp[go_sem]);have rf:∀o,wr.frozen? ⟨w.heap.size+1,o,none⟩=false:=λo=>(hB.frozen (by simp)).trans (by simp[go_sem]);have HX:Hid (Below w.heap.size w wr):=(vI.out wr hB).1;clear hB hO II afC uJ
   go_wp2_with fail
   refine aH (v:= .agg #[.slice na N nc,.slice fa N fc,.slice ga N gc]) (by simp[results,Tryz.results43,go_sem,r0,r1,r2]) rfl ⟨_,_,_,vf,vg,w.heap.size+1+1+1,rfl,?_,?_⟩
   ·exact((HX.out.setCell (by simp) _).setCell (by simp) _).setCell (by simp) _
   ·exact((HO.out.xk (by simp) _).xk (by simp) _).xk (by simp) _
end Go.Proofs.YthbifaoaiggooaaGreatDoor
