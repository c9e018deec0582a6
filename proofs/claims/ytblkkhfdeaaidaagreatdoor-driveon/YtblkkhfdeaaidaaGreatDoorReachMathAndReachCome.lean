import Derived.Test.YtblkkhfdeaaidaaGreatDoorStCxAndLeft3
import Derived.Test.YtblkkhfdeaaidaaGreatDoorRef3MathAndGrowMath
import Derived.Test.YtblkkhfdeaaidaaGreatDoorLooksMathAndTabMath
set_option maxHeartbeats 1600000
set_option maxRecDepth 100000
namespace Go.Proofs.YtblkkhfdeaaidaaGreatDoor
inductive Iv where
 |gr|a|b
 |r (n:Nat)
 deriving DecidableEq
abbrev Vs:=Iv->List Bool
def pY(r:Ru)(X:Vs):Vs:=if dK (X .a) r.2 then gN .gr X .a r.1.toNat else X
def qM(l:List Sy)(k:Nat)(Y:Vs):Vs:=if (l.getD k (false,0)).1 then Y else gN .gr Y .b (l.getD k (false,0)).2.toNat
def M7(l:List Sy)(X:Vs):Vs:=aK l.length (qM l) X
def p8(r:Ru)(X:Vs):Vs:=if bit X .b r.1.toNat&&dK (X .a) r.2 then M7 r.2 X else X
def fE(N:Nat):Iv->Option Nat
 | .gr=>some 1
 | .a=>some N
 | .b=>none
 | .r _=>none
def dY(N:Nat):Iv->Option Nat
 | .gr=>some 1
 | .a=>some N
 | .b=>some N
 | .r _=>none
section
variable{T N:Nat}{R:List Ru}
def ZM(N:Nat)(R:List Ru):Iv->Nat->Prop
 | .a,m=>gT N R m
 |_,_=>True
theorem VN{r:Ru}(hL:0<=r.1/\r.1<(N:Int)){X:Vs}(h:kU (fE N) X):kF .gr (fE N) X (pY r X)/\(bit (pY r X) .gr 0=false->dK (X .a) r.2=true->bit X .a r.1.toNat=true):=by
 unfold pY;cases hb:dK (X .a) r.2 with
 |true=>
  simp only[if_true];obtain⟨p1,p2⟩:=VJ (gr:=Iv.gr) (dom:=fE N) (i:= .a) (n:=N) (m:=r.1.toNat) rfl h rfl (by omega) (by simp);exact⟨p1,fun hz _=>by rw[p1.still hz]at p2;exact p2⟩
 |false=>exact⟨by simpa using kF.refl h,fun _ h=>by cases h⟩
theorem aeb(hf:bM T N R){r:Ru}(hr:r∈R){X:Vs}(h:kU (fE N) X)(hs:oJ (fE N) (ZM N R) X):oJ (fE N) (ZM N R) (pY r X):=by
 have hL:=hf.left r hr;unfold pY;cases hb:dK (X .a) r.2 with
 |true=>
  simp only[if_true];refine VK (gr:=Iv.gr) (i:= .a) (n:=N) rfl (fun _=>trivial) h rfl (by omega) hs ?_;show gT N R _;rw[rX hL.1];refine lu (Vx hf) _ ⟨r,hr,rfl,fun s hsr hsb=> ?_⟩;have hn:=hf.name r hr s hsr hsb;have:=(xY (fun s hs hb=>(hf.name r hr s hs hb).1)).1 hb s hsr hsb;have:=hs .a N s.2.toNat rfl (by omega) this.2;have:gT N R (s.2.toNat:Nat):=this
  rwa [rX hn.1]at this
 |false=>simpa using hs
theorem aec(hf:bM T N R){X0 X:Vs}(h:rY .gr (fE N) (ZM N R) X0 R pY X)(hg:bit X .gr 0=false):∀n,hasB (X .a) n↔gT N R n:=by
 have hl:=h.bU .a N rfl;refine fun n=>⟨fun hn=> ?_,fun hn=> ?_⟩
 ·have hb:bit X .a n.toNat=true:=hn.2
  have:=h.snd .a N n.toNat rfl (by have:=Jy hb;omega) hb;have:gT N R (n.toNat:Nat):=this
  rwa [rX hn.1]at this
 ·refine Cr (Vv R) (A:=hasB (X .a)) (fun n hn=> ?_) N n hn
  obtain⟨r,hr,rfl,ha⟩:=hn;obtain⟨q,hq,rfl⟩:=EM hr;have hL:=hf.left _ hr;exact⟨hL.1,(VN hL h.bU).2 (h.held hg q hq) ((xY (fun s hs hb=>(hf.name _ hr s hs hb).1)).2 ha)⟩
def ZC(N:Nat)(R:List Ru):Iv->Nat->Prop
 | .a,m=>gT N R m
 | .b,m=>oI N R m
 |_,_=>True
theorem M8{l:List Sy}(hin:∀s∈l,s.1=false->0<=s.2/\s.2<(N:Int)){k:Nat}(hk:k<l.length){X:Vs}(h:kU (dY N) X):kF .gr (dY N) X (qM l k X)/\((l.getD k (false,0)).1=false->bit (qM l k X) .b (l.getD k (false,0)).2.toNat=true):=by
 have hm:l.getD k (false,0)∈l:=by simp[List.getD,hk]
 unfold qM;cases hb:(l.getD k (false,0)).1 with
 |true=>exact⟨by simpa using kF.refl h,fun h=>by cases h⟩
 |false=>
  have:=hin _ hm hb;simp only[Bool.false_eq_true,if_false];obtain⟨p1,p2⟩:=VJ (gr:=Iv.gr) (dom:=dY N) (i:= .b) (n:=N) (m:=(l.getD k (false,0)).2.toNat) rfl h rfl (by omega) (by simp);exact⟨p1,fun _=>p2⟩
theorem VO(hf:bM T N R){r:Ru}(hr:r∈R){X:Vs}(h:kU (dY N) X):kF .gr (dY N) X (p8 r X)/\
 (bit (p8 r X) .gr 0=false->bit X .b r.1.toNat=true->dK (X .a) r.2=true->∀n:Int,(false,n)∈r.2->bit X .b n.toNat=true):=by
 unfold p8;cases hb:(bit X .b r.1.toNat&&dK (X .a) r.2) with
 |true=>
  simp only[if_true];obtain⟨u1,u2⟩:=M6 (gr:=Iv.gr) (dom:=dY N) (n:=r.2.length) (f:=qM r.2) (fun k hk Y hY=>(M8 (hf.name r hr) hk hY).1) h;refine⟨u1,fun hz _ _ n hn=> ?_⟩;obtain⟨k,hk,he⟩:=List.getElem_of_mem hn;have hz1:=u2 hz k hk;obtain⟨v1,v2⟩:=M8 (hf.name r hr) hk h;have e:r.2.getD k (false,0)=(false,n):=by simp[List.getD,hk,he]
  rw[e]at v2;have:=v2 rfl
  rwa [v1.still hz1]at this
 |false=>
  refine⟨by simpa using kF.refl h,fun _ h1 h2=> ?_⟩;rw[h1,h2]at hb;cases hb
theorem aed(hf:bM T N R){r:Ru}(hr:r∈R){X:Vs}(h:kU (dY N) X)(hs:oJ (dY N) (ZC N R) X):oJ (dY N) (ZC N R) (p8 r X):=by
 have hL:=hf.left r hr;unfold p8;cases hb:(bit X .b r.1.toNat&&dK (X .a) r.2) with
 |true=>
  simp only[if_true];simp only[Bool.and_eq_true]at hb
  have hc:oI N R r.1:=by
   have:oI N R (r.1.toNat:Nat):=hs .b N r.1.toNat rfl (by omega) hb.1
   rwa [rX hL.1]at this
  have ha:rW (gT N R) r.2:=fun s hsr hsb=>by
   have hn:=hf.name r hr s hsr hsb;have:=(xY (fun s hs hb=>(hf.name r hr s hs hb).1)).1 hb.2 s hsr hsb;have:gT N R (s.2.toNat:Nat):=hs .a N s.2.toNat rfl (by omega) this.2
   rwa [rX hn.1]at this
  refine VL (gr:=Iv.gr) (fun k hk Y hY=>(M8 (hf.name r hr) hk hY).1) (fun k hk Y hY Hl=> ?_) h hs;have hm:r.2.getD k (false,0)∈r.2:=by simp[List.getD,hk]
  unfold qM;obtain⟨⟨x,v⟩,hx⟩:∃x,r.2.getD k (false,0)=x:=⟨_,rfl⟩;rw[hx]at hm⊢;cases x with
  |true=>simpa using Hl
  |false=>
   have hn:=hf.name r hr _ hm rfl;simp only[Bool.false_eq_true,if_false];simp only at hn;refine VK (gr:=Iv.gr) (i:= .b) (n:=N) rfl (fun _=>trivial) hY rfl (by omega) Hl ?_;show oI N R _;rw[rX hn.1];exact lu (MZ hf _) _ (.inr ⟨r,hr,hm,ha,hc⟩)
 |false=>simpa using hs
theorem aee(hf:bM T N R){X0 X:Vs}(h0:∀n,gT N R n->hasB (X0 .a) n)(h1:gT N R 0->bit X0 .b 0=true)(h:rY .gr (dY N) (ZC N R) X0 R p8 X)(hg:bit X .gr 0=false):∀n,hasB (X .b) n↔oI N R n:=by
 have hl:=h.bU .b N rfl;have hA:∀n,gT N R n->hasB (X .a) n:=fun n hn=>⟨(h0 n hn).1,h.up .a _ (by simp) (h0 n hn).2⟩;refine fun n=>⟨fun hn=> ?_,fun hn=> ?_⟩
 ·have hb:bit X .b n.toNat=true:=hn.2
  have:oI N R (n.toNat:Nat):=h.snd .b N n.toNat rfl (by have:=Jy hb;omega) hb
  rwa [rX hn.1]at this
 ·refine Cr (Vw R (gT N R)) (A:=hasB (X .b)) (fun n hn=> ?_) N n hn
  rcases hn with⟨rfl,hm⟩|⟨r,hr,hmem,ha,hc⟩
  ·exact⟨Int.le_refl _,h.up .b 0 (by simp) (h1 hm)⟩
  ·obtain⟨q,hq,rfl⟩:=EM hr
   exact⟨(hf.name _ hr _ hmem rfl).1,(VO hf hr h.bU).2 (h.held hg q hq) hc.2 ((xY (fun s hs hb=>(hf.name _ hr s hs hb).1)).2 (ha.mono hA)) n hmem⟩
end
end Go.Proofs.YtblkkhfdeaaidaaGreatDoor
namespace Go.Proofs.YtblkkhfdeaaidaaGreatDoor
open Go.RowKit
def bq(dom:Iv->Option Nat)(va vb:Value)(vr:Nat->Value)(gb:Nat):dw Iv:=⟨fun| .gr=> .slice (some ⟨gb,0,none⟩) 1 1| .a=>va| .b=>vb| .r n=>vr n,dom⟩
theorem IY{dom:Iv->Option Nat}{va vb:Value}{vr:Nat->Value}{gb:Nat}(h:dom .gr=some 1):Mark (bq dom va vb vr gb) .gr gb:=⟨rfl,h⟩
theorem VP{ι:Type}{c:dw ι}{w:World}{B N lc:Nat}{la:Option Addr}{i:ι}{X:ι->List Bool}{l:List Sy}(h:Bt w B c X)(hB:B<=w.heap.size)(hd:c.dom i=some N)(hl:fq w B la l)(hin:∀s∈l,s.1=false->0<=s.2/\s.2<(N:Int))(h8:l.length<=1000):
 Calls Tryz.prog 192 #[c.V i,.slice la l.length lc] w fun e w'=>e= .returned (.bool (dK (X i) l))/\Below w.heap.size w w':=by
 obtain⟨va,vc,hv⟩:=Bt.slice h hd;have HB:Hid (Bt w B c X):=h;have HV:Hid (c.V i= .slice va N vc):=hv;have HL:Hid (fq w B la l):=hl;have HI:Hid (∀s∈l,s.1=false->0<=s.2/\s.2<(N:Int)):=hin;rw[hv];clear h hv hl hin
 go_enter Tryz.func192,Tryz.ntmps192
 go_wp2_with fail
 go_loopw [9] (fun s wr=> ∃k:Nat,s= .int .i64 k/\k<=l.length/\dK (X i) (l.take k)=true/\Below w.heap.size w wr) (fun s _=>l.length-(intOf s).toNat)
 case atStart=>exact⟨0,rfl,Nat.zero_le _,rfl,Below.refl _ _⟩
 case round=>
  obtain⟨k,rfl,hk,hn,hb⟩:=hrel;have HN:Hid (dK (X i) (l.take k)=true):=hn;have kP:Hid (Below w.heap.size w wr):=hb;have gu:Hid (Bt wr B c X):=Bt.below HB.out hb;clear hn hb;by_cases hlt:k<l.length
  ·obtain⟨b',o',oO,hb',k3,k4⟩:=HL.out k hlt
   subst oO;have hmem:l.getD k (false,0)∈l:=by simp[List.getD,hlt]
   have hr:=HI.out _ hmem;obtain⟨⟨t,v⟩,hs⟩:∃x,l.getD k (false,0)=x:=⟨_,rfl⟩;have HT:=U7 (X i) l k hlt;have dH:=adE (X i) l k hlt;rw[hs]at k3 k4 hr HT dH;rw[HN.out,Bool.true_and]at HT;have M9:Hid (dK (X i) (l.take (k+1))=(t||(X i).getD v.toNat false)):=HT;have tX:Hid ((t||(X i).getD v.toNat false)=false->dK (X i) l=false):=dH;have Cn:wr.cell? ⟨b',o'+k*2,none⟩=some (.bool t):=(kP.out.cell (p:=⟨b',o'+k*2,none⟩) (by simp only;omega)).trans k3;have zX:wr.cell? ⟨b',o'+k*2+1,none⟩=some (.int .i64 v):=by rw[Nat.add_assoc];exact(kP.out.cell (p:=⟨b',o'+(k*2+1),none⟩) (by simp only;omega)).trans k4
   have j0:(0:Int)<=(k:Int):=Int.natCast_nonneg _;have j1:(k:Int)<(l.length:Int):=by omega
   have HA:Hid (Below w.heap.size w (wr.alloc (.cells #[.bool t,.int .i64 v] 116))):=kP.out.alloc kP.out.size _;clear hs hmem HT dH k3 k4;cases t with
   |true=>
    go_wp2_with fail
    go_roundw
    case rel=>exact⟨k+1,by go_num,by omega,by rw[M9.out];rfl,HA.out⟩
    case measure=>simp[intOf];omega
   |false=>
    have hr':0<=v/\v<(N:Int):=hr rfl;clear hr;obtain⟨y,rfl⟩:∃y:Nat,v=y:=⟨v.toNat,by omega⟩;obtain⟨g,cap,hv,_,hgl⟩:=Bt.form gu.out hd (by omega);have hv':=HV.out;rw[hv]at hv';cases hv';obtain⟨k5,_⟩:=Bt.cell gu.out hd hv (m:=y) (by omega);have k6:(wr.alloc (.cells #[.bool false,.int .i64 y] 116)).cell? ⟨g,y,none⟩=some (.bool (bit X i y)):=by rw[World.cell?_alloc_past _ _ _ hgl];exact k5
    have j2:(0:Int)<=(y:Int):=Int.natCast_nonneg _;have j3:(y:Int)<(N:Int):=by omega
    obtain⟨z,hz⟩:∃z,bit X i y=z:=⟨_,rfl⟩;have hz':(X i).getD y false=z:=hz;rw[hz]at k6;simp only[Int.toNat_natCast,hz']at M9 tX;clear hz hz' hr' k5 hv;cases z with
    |true=>
     go_wp2_with fail
     go_roundw
     case rel=>exact⟨k+1,by go_num,by omega,by rw[M9.out];rfl,HA.out⟩
     case measure=>simp[intOf];omega
    |false=>
     go_wp2_with fail
     go_ret;exact⟨by rw[tX.out (by simp)];rfl,HA.out⟩
  ·go_wp2_with fail
   go_ret;exact⟨by rw[<-HN.out,List.take_of_length_le (by omega)];rfl,kP.out⟩
theorem aef{w:World}{B N lc gb:Nat}{dom:Iv->Option Nat}{va vb:Value}{vr:Nat->Value}{la:Option Addr}{X:Vs}{l:List Sy}(h:Bt w B (bq dom va vb vr gb) X)(hB:B<=w.heap.size)(hgr:dom .gr=some 1)(hd:dom .b=some N)(hl:fq w B la l)(hin:∀s∈l,s.1=false->0<=s.2/\s.2<(N:Int))(h8:l.length<=1000):
 Calls Tryz.prog 194 #[vb,.slice la l.length lc,.func (.func 73) #[] #[.pointer (some ⟨gb,0,none⟩)]] w fun e w'=>e= .returned (.tuple #[])/\Bt w' B (bq dom va vb vr gb) (M7 l X)/\Kept (bq dom va vb vr gb).K w w':=by
 obtain⟨ba,bc,hv'⟩:=Bt.slice (i:=Iv.b) h hd;have hv:vb= .slice ba N bc:=hv';subst hv;have HB:Hid (Bt w B (bq dom va (.slice ba N bc) vr gb) X):=h;have HL:Hid (fq w B la l):=hl;have HI:Hid (∀s∈l,s.1=false->0<=s.2/\s.2<(N:Int)):=hin;clear h hv' hl hin
 go_enter Tryz.func194,Tryz.ntmps194
 go_wp2_with fail
 go_loopw [10] (fun s wr=> ∃k:Nat,s= .int .i64 k/\k<=l.length/\Bt wr B (bq dom va (.slice ba N bc) vr gb) (aK k (qM l) X)/\Kept (bq dom va (.slice ba N bc) vr gb).K w wr) (fun s _=>l.length-(intOf s).toNat)
 case atStart=>exact⟨0,rfl,Nat.zero_le _,HB.out,Kept.refl _ _⟩
 case round=>
  obtain⟨k,rfl,hk,hBr,hKr⟩:=hrel;obtain⟨Y,hY⟩:∃Y,aK k (qM l) X=Y:=⟨_,rfl⟩;rw[hY]at hBr;have HY:Hid (aK k (qM l) X=Y):=hY;have gu:Hid (Bt wr B (bq dom va (.slice ba N bc) vr gb) Y):=hBr;have lM:Hid (Kept (bq dom va (.slice ba N bc) vr gb).K w wr):=hKr;have xP:Hid (Below B w wr):=hKr.below (fun b hb=>Bt.ge HB.out hb) hB;clear hY hBr hKr;by_cases hlt:k<l.length
  ·obtain⟨b',o',oO,hb',k3,k4⟩:=HL.out k hlt
   subst oO;have hmem:l.getD k (false,0)∈l:=by simp[List.getD,hlt]
   have hr:=HI.out _ hmem;have hstep:aK (k+1) (qM l) X=if (l.getD k (false,0)).1 then Y else gN .gr Y .b (l.getD k (false,0)).2.toNat:=by rw[<-HY.out];rfl
   obtain⟨⟨t,v⟩,hs⟩:∃x,l.getD k (false,0)=x:=⟨_,rfl⟩;rw[hs]at k3 k4 hr hstep;have Cn:wr.cell? ⟨b',o'+k*2,none⟩=some (.bool t):=(xP.out.cell (p:=⟨b',o'+k*2,none⟩) hb').trans k3;have zX:wr.cell? ⟨b',o'+k*2+1,none⟩=some (.int .i64 v):=by rw[Nat.add_assoc];exact(xP.out.cell (p:=⟨b',o'+(k*2+1),none⟩) hb').trans k4
   have j0:(0:Int)<=(k:Int):=Int.natCast_nonneg _;have j1:(k:Int)<(l.length:Int):=by omega
   have HA:Hid (Bt (wr.alloc (.cells #[.bool t,.int .i64 v] 116)) B (bq dom va (.slice ba N bc) vr gb) Y):=Bt.alloc gu.out _;have lU:Hid (Kept (bq dom va (.slice ba N bc) vr gb).K w (wr.alloc (.cells #[.bool t,.int .i64 v] 116))):=lM.out.alloc _;have HS:Hid (aK (k+1) (qM l) X=if t then Y else gN .gr Y .b v.toNat):=hstep;clear hs hmem k3 k4 hstep;cases t with
   |true=>
    go_wp2_with fail
    go_roundw
    case rel=>exact⟨k+1,by go_num,by omega,by rw[HS.out];exact HA.out,lU.out⟩
    case measure=>simp[intOf];omega
   |false=>
    have hr':0<=v/\v<(N:Int):=hr rfl;clear hr;obtain⟨y,rfl⟩:∃y:Nat,v=y:=⟨v.toNat,by omega⟩;have put:=G7 (i:=Iv.b) (m:=y) HA.out (IY hgr) hd (by omega) (by simp);have put':Calls Tryz.prog 73 #[.slice ba N bc,.int .i64 y,.pointer (some ⟨gb,0,none⟩)] _ _:=put;clear put hr'
    go_wp2_with (go_at_call 73;refine put'.mono ?_;rintro e w2 ⟨rfl,hB2,hK2⟩)
    go_roundw
    case rel=>exact⟨k+1,by go_num,by omega,by rw[HS.out];simpa using hB2,lU.out.trans hK2⟩
    case measure=>simp[intOf];omega
  ·obtain rfl:k=l.length:=by omega
   go_wp2_with fail
   go_end0
   exact⟨rfl,by show Bt _ _ _ (aK l.length (qM l) X);rw[HY.out];exact gu.out,lM.out⟩
section
variable{N:Nat}{va vb:Value}{vr:Nat->Value}{gb:Nat}
theorem aeg{w:World}{B sx qc T:Nat}{qa:Option Addr}{X:Vs}{R:List Ru}{r:Ru}(h:Bt w B (bq (fE N) va vb vr gb) X)(hB:B<=w.heap.size)(hs:w.cell? ⟨sx,0,none⟩=some va)(mP:¬(bq (fE N) va vb vr gb).K sx)
 (hf:bM T N R) (hr:r∈R) (h8:r.2.length<=8) (hR:fq w B qa r.2):
 Calls Tryz.prog 191 #[.agg #[.int .i64 r.1,.slice qa r.2.length qc],.func (.func 73) #[] #[.pointer (some ⟨gb,0,none⟩)],.pointer (some ⟨sx,0,none⟩)] w fun e w'=>
  e= .returned (.tuple #[])/\Bt w' B (bq (fE N) va vb vr gb) (pY r X)/\Kept (bq (fE N) va vb vr gb).K w w':=by
 have hL:=hf.left r hr;have hin:=hf.name r hr;obtain⟨L,Rt⟩:=r;simp only at hL hin h8 hR⊢;obtain⟨l,rfl⟩:∃l:Nat,L=l:=⟨L.toNat,by omega⟩;obtain⟨aa,ac,hv'⟩:=Bt.slice (i:=Iv.a) (n:=N) h rfl;have hv:va= .slice aa N ac:=hv';clear hv';subst hv;have hK1:Kept (bq (fE N) (.slice aa N ac) vb vr gb).K w (w.alloc (.cells #[.int .i64 l,.slice qa Rt.length qc] 91)):=(Kept.refl _ _).alloc _;have oW:=hR.below (hK1.below (fun b hb=>Bt.ge h hb) hB);have all:=VP (i:=Iv.a) (N:=N) (lc:=qc) (Bt.alloc h (.cells #[.int .i64 l,.slice qa Rt.length qc] 91)) (by simp;omega) rfl oW hin (by omega);have all':Calls Tryz.prog 192 #[.slice aa N ac,.slice qa Rt.length qc] _ _:=all;have hs1:=hK1.cell mP hs;have HB:Hid (Bt w B (bq (fE N) (.slice aa N ac) vb vr gb) X):=h;have HsK:Hid (¬(bq (fE N) (.slice aa N ac) vb vr gb).K sx):=mP;have HM:Hid (pY ((l:Int),Rt) X=if dK (X .a) Rt then gN .gr X .a l else X):=by show pY ((l:Int),Rt) X=_;simp[pY]
 obtain⟨z,hz⟩:∃z,dK (X .a) Rt=z:=⟨_,rfl⟩;rw[hz]at HM all';clear all hz h mP hR oW hin;cases z with
 |true=>
  go_enter Tryz.func191,Tryz.ntmps191
  go_wp2_with
   (first
    |(go_at_call 192;refine all'.mono ?_;rintro e w2 ⟨rfl,hb2⟩
      have q0:=(hb2.cell (p:=⟨sx,0,none⟩) (World.block_lt_of_cell? _ _ hs1)).trans hs1;have q1:w2.cell? ⟨w.heap.size,0,none⟩=some (.int .i64 l):=(hb2.cell (by simp)).trans (by simp[go_sem]);have hB2:Bt w2 B (bq (fE N) (.slice aa N ac) vb vr gb) X:=Bt.below (Bt.alloc HB.out _) hb2;have put:=G7 (i:=Iv.a) (n:=N) (m:=l) hB2 (IY rfl) rfl (by omega) (by simp);have put':Calls Tryz.prog 73 #[.slice aa N ac,.int .i64 l,.pointer (some ⟨gb,0,none⟩)] _ _:=put;have dP:Hid (Kept (bq (fE N) (.slice aa N ac) vb vr gb).K w w2):=hK1.trans (Kept.bP hb2)
      clear hB2 put hb2 all' hs1)
    |(go_at_call 73;refine put'.mono ?_;rintro e w3 ⟨rfl,hB3,hK3⟩))
  go_end0
  exact⟨rfl,by rw[HM.out];exact hB3,dP.out.trans hK3⟩
 |false=>
  go_enter Tryz.func191,Tryz.ntmps191
  go_wp2_with
   (go_at_call 192;refine all'.mono ?_;rintro e w2 ⟨rfl,hb2⟩
    have HB2:Hid (Bt w2 B (bq (fE N) (.slice aa N ac) vb vr gb) X):=Bt.below (Bt.alloc HB.out _) hb2;have dP:Hid (Kept (bq (fE N) (.slice aa N ac) vb vr gb).K w w2):=hK1.trans (Kept.bP hb2)
    clear hb2 all' hs1)
  go_end0
  exact⟨rfl,by rw[HM.out];exact HB2.out,dP.out⟩
end
theorem IZ{T N:Nat}{R:List Ru}(h:aD T N R=true):bM T N R:=by
 obtain⟨_,h1,_,_,h5⟩:=fV h
 have mem:∀r∈R,0<=r.1/\r.1<(N:Int)/\∀s∈r.2,0<=s.2/\s.2<if s.1 then (T:Int) else (N:Int):=fun r hr=>by
  obtain⟨q,hq,rfl⟩:=EM hr;exact⟨(h5 q hq).1,(h5 q hq).2.1,(h5 q hq).2.2.2⟩
 refine⟨fun r hr=>⟨(mem r hr).1,(mem r hr).2.1⟩,fun r hr s hs hb=> ?_,fun r hr s hs hb=> ?_,h1⟩
 ·have:=(mem r hr).2.2 s hs;rw[hb]at this;simpa using this
 ·have:=(mem r hr).2.2 s hs;rw[hb]at this;simpa using this
def r9:Nat->Value:=fun _=> .slice none 0 0
def uE(N:Nat):Vs
 | .a=>List.replicate N false
 | .gr=>[true]
 |_=>[]
theorem VQ{w:World}{B:Nat}(hB:B<=w.heap.size):(w.alloc (.cells #[.bool true] 4)).ownsRow B 4 1 (.slice (some ⟨w.heap.size,0,none⟩) 1 1) 1 ([true].map Value.bool):=by
 have:=World.ownsRow_lit (base:=B) (e:=4) (size:=1) w #[.bool true] 1 hB (by unfold maxLen;omega) rfl;simpa using this
theorem aeh{w1:World}{N:Nat}(hN:N<=maxLen)(o:Obj):Bt ((((w1.alloc (.cells (madeCells #[.bool false] N) 4)).alloc o)).alloc (.cells #[.bool true] 4)) w1.heap.size (bq (fE N) (.slice (some ⟨w1.heap.size,0,none⟩) N N) (.slice none 0 0) r9 (w1.heap.size+2)) (uE N):=by
 have h0:Bt w1 w1.heap.size (⟨fun _=> .slice none 0 0,fun _=>none⟩:dw Iv) (uE N):=ZW _ _ fun _=>rfl
 have h1:Bt (w1.alloc (.cells (madeCells #[.bool false] N) 4)) w1.heap.size (bq (fun| .a=>some N|_=>none) (.slice (some ⟨w1.heap.size,0,none⟩) N N) (.slice none 0 0) r9 0) (uE N):=
  Gb .a h0 ((Below.refl _ _).alloc (Nat.le_refl _) _) rfl (KH w1 hN) (fun g hg=>by cases hg;exact Nat.le_refl _) (fun j hj m hm=>by cases j<;>simp_all [bq])
 have h2:=Bt.alloc h1 o;refine Gb .gr h2 ((Below.refl _ _).alloc (Nat.le_refl _) _) rfl ?_ (fun g hg=> ?_) (fun j hj m hm=>by cases j<;>simp_all [bq,fE])
 ·have:=VQ (w:=(w1.alloc (.cells (madeCells #[.bool false] N) 4)).alloc o) (B:=w1.heap.size) (by simp;omega)
  simp only[World.size_alloc]at this;exact this
 ·simp only[bq,Value.ownBlock,Option.some.injEq]at hg
  simp only[World.size_alloc];omega
theorem aei{N:Nat}{R:List Ru}:rY .gr (fE N) (ZM N R) (uE N) R pY (uE N):=by
 refine⟨fun i n hd=> ?_,fun i n m hd hm hb=> ?_,fun _ _ _ h=>h,fun hz=>by simp[bit,uE]at hz⟩
 ·cases i<;>simp[fE]at hd<;>subst hd<;>simp[uE]
 ·cases i<;>simp[fE]at hd
  ·trivial
  ·subst hd
   simp[bit,uE,List.getD,hm]at hb
def EQ(N:Nat):List (Iv×Nat):=(List.range N).map fun m=>(.a,m)
theorem aej(N:Nat):∀i n m,i≠Iv.gr->fE N i=some n->m<n->(i,m)∈EQ N:=fun i n m hi hd hm=>by
 cases i<;>simp[fE]at hd hi;subst hd;simp[EQ,hm]
theorem aek(N:Nat):∀p∈EQ N,p.1≠Iv.gr:=fun p hp=>by
 simp only[EQ,List.mem_map]at hp;obtain⟨_,_,rfl⟩:=hp;simp
theorem bq.gU{dom:Iv->Option Nat}{va vb:Value}{vr:Nat->Value}{gb b:Nat}(h:∀i n,dom i=some n->((bq dom va vb vr gb).V i).ownBlock≠some b):¬(bq dom va vb vr gb).K b:=fun⟨i,n,hd,hb⟩=>h i n hd hb
theorem VR{w:World}{T N:Nat}{rv:Value}{R:List Ru}(hr:au w w.heap.size rv R)(hm:aD T N R=true):
 Calls Tryz.prog 174 #[.agg #[.int .i64 T,.int .i64 N,rv]] w fun e w'=> ∃g Y,e= .returned (.tuple #[.slice (some ⟨g,0,none⟩) N N,.int .i64 0])/\Below w.heap.size w w'/\eU w' (w.heap.size+1) g N Y/\∀n,hasB Y n↔gT N R n:=by
 have hf:=IZ hm;obtain⟨hT,hN1,hN,hRl,nP⟩:=fV hm;obtain⟨ra,rc,aG⟩:=hr.1;subst aG;have may:=lm (T:=T) (N:=N) (hr.boxed (.cells #[.int .i64 T,.int .i64 N,.slice ra R.length rc] 26));rw[hm]at may;have HR:Hid (au w w.heap.size (.slice ra R.length rc) R):=hr;have HF:Hid (bM T N R):=hf;have HQ:Hid (∀q,q<R.length->(R.getD q (0,[])).2.length<=8):=fun q hq=>(nP q hq).2.2.1;have wK:=Au N (by omega);clear hr hm hf nP
 go_enter Tryz.func174,Tryz.ntmps174
 go_wp2_with
  (first
   |(go_at_call 49;refine may.mono ?_;rintro e w1 ⟨rfl,hB1⟩
     have b1:w1.cell? ⟨w.heap.size,1,none⟩=some (.int .i64 N):=(hB1.cell (by simp)).trans (by simp[go_sem]);have b2:w1.cell? ⟨w.heap.size,2,none⟩=some (.slice ra R.length rc):=(hB1.cell (by simp)).trans (by simp[go_sem]);have hs1:w.heap.size+1<=w1.heap.size:=by have:=hB1.size;simpa using this
     have HX:Hid (Below w.heap.size w w1):=((Below.refl _ _).alloc (Nat.le_refl _) _).trans (hB1.mono (by simp))
     have m2:((w1.alloc (.cells (madeCells #[.bool false] N) 4)).alloc (.cells #[.slice (some ⟨w1.heap.size,0,none⟩) N N] 53)).cell? ⟨w.heap.size,2,none⟩=some (.slice ra R.length rc):=by
      rw[World.cell?_alloc_past _ _ _ (by simp;omega),World.cell?_alloc_past _ _ _ (by omega)];exact b2
     clear hB1 may)
   |(go_at_call 51
     have kz:=aeh (w1:=w1) (N:=N) (by unfold maxLen;omega) (.cells #[.slice (some ⟨w1.heap.size,0,none⟩) N N] 53);have zC:Below w1.heap.size w1 (((w1.alloc (.cells (madeCells #[.bool false] N) 4)).alloc (.cells #[.slice (some ⟨w1.heap.size,0,none⟩) N N] 53)).alloc (.cells #[.bool true] 4)):=(((Below.refl _ _).alloc (Nat.le_refl _) _).alloc (by simp) _).alloc (by simp;omega) _;have nD:au (((w1.alloc (.cells (madeCells #[.bool false] N) 4)).alloc (.cells #[.slice (some ⟨w1.heap.size,0,none⟩) N N] 53)).alloc (.cells #[.bool true] 4)) w1.heap.size (.slice ra R.length rc) R:=((HR.out.below HX.out).mono (by omega)).below zC;have mP:¬(bq (fE N) (.slice (some ⟨w1.heap.size,0,none⟩) N N) (.slice none 0 0) r9 (w1.heap.size+2)).K (w1.heap.size+1):=bq.gU fun i n hd=>by cases i<;>simp[fE]at hd<;>simp[bq,Value.ownBlock]
     have hsv:(((w1.alloc (.cells (madeCells #[.bool false] N) 4)).alloc (.cells #[.slice (some ⟨w1.heap.size,0,none⟩) N N] 53)).alloc (.cells #[.bool true] 4)).cell? ⟨w1.heap.size+1,0,none⟩=some (.slice (some ⟨w1.heap.size,0,none⟩) N N):=by simp[go_sem]
     refine(LG (c:=bq (fE N) (.slice (some ⟨w1.heap.size,0,none⟩) N N) (.slice none 0 0) r9 (w1.heap.size+2)) (gr:=Iv.gr) (B:=w1.heap.size) (X:=uE N) (R:=R) (f:=pY) (Head:=rY .gr (fE N) (ZM N R) (uE N) R pY) (kR:=EP .gr (EQ N))
      (by simpa using kz) (by simp;omega) (by simpa using IY (dom:=fE N) rfl) nD (by omega) (fun k hk w2 Y qa qc hK Na Ei hqc=> ?_) (fun args w=>by simp[callFunc,Tryz.func191,Tryz.f191 ]) aei
      (rY.next rfl (aej N) (aek N) (fun _=>trivial) (fun q hq Y hY=>(VN (HF.out.left _ (uD hq)) hY).1) (fun q hq Y hY hs=>aeb HF.out (uD hq) hY hs))).mono ?_
     ·have e:∀a b c:Value,#[a,b]++ #[c]= #[a,b,c]:=fun a b c=>by simp
      rw[e];have hs:=hK.size;simp only[World.size_alloc]at hs⊢;exact aeg Na (by omega) (hK.cell mP hsv) mP HF.out (uD hk) (HQ.out k hk) Ei
     rintro e w3 ⟨rfl,Y,hH,hg,hB3,hK3⟩;have n0:=hK3.cell mP hsv;have HB3:Hid (Bt w3 w1.heap.size (bq (fE N) (.slice (some ⟨w1.heap.size,0,none⟩) N N) (.slice none 0 0) r9 (w1.heap.size+2)) Y):=hB3;have HL:Hid (∀n,hasB (Y .a) n↔gT N R n):=aec HF.out hH hg;have HB:Hid (Below w.heap.size w w3):=HX.out.trans ((zC.trans (hK3.below (fun b hb=>Bt.ge hB3 hb) (by simp;omega))).mono (by omega))
     clear kz zC nD mP hsv hH hg hB3 hK3))
 refine bodyPost_ret (v:= .tuple #[.slice (some ⟨w1.heap.size,0,none⟩) N N,.int .i64 0]) (by simp[results,Tryz.results174,go_sem]) rfl ⟨w1.heap.size,Y .a,rfl,HB.out,jf (Bt.own (i:=Iv.a) HB3.out rfl) (by omega),HL.out⟩
section
variable{N:Nat}{va vb:Value}{vr:Nat->Value}{gb:Nat}
theorem ael{w:World}{B sx mx qc T:Nat}{qa:Option Addr}{X:Vs}{R:List Ru}{r:Ru}(h:Bt w B (bq (dY N) va vb vr gb) X)(hB:B<=w.heap.size)(hs:w.cell? ⟨sx,0,none⟩=some vb)(mP:¬(bq (dY N) va vb vr gb).K sx)
 (hx:w.cell? ⟨mx,0,none⟩=some va) (BP:¬(bq (dY N) va vb vr gb).K mx) (hf:bM T N R) (hr:r∈R) (h8:r.2.length<=8) (hR:fq w B qa r.2):
 Calls Tryz.prog 193 #[.agg #[.int .i64 r.1,.slice qa r.2.length qc],.func (.func 73) #[] #[.pointer (some ⟨gb,0,none⟩)],.pointer (some ⟨sx,0,none⟩),.pointer (some ⟨mx,0,none⟩)] w fun e w'=>
  e= .returned (.tuple #[])/\Bt w' B (bq (dY N) va vb vr gb) (p8 r X)/\Kept (bq (dY N) va vb vr gb).K w w':=by
 have hL:=hf.left r hr;have hin:=hf.name r hr;obtain⟨L,Rt⟩:=r;simp only at hL hin h8 hR⊢;obtain⟨l,rfl⟩:∃l:Nat,L=l:=⟨L.toNat,by omega⟩;obtain⟨aa,ac,hv'⟩:=Bt.slice (i:=Iv.a) (n:=N) h rfl;have hv:va= .slice aa N ac:=hv';clear hv';subst hv;obtain⟨bg,bc,hv',_,hbl⟩:=Bt.form (i:=Iv.b) (n:=N) h rfl (by omega);have hv:vb= .slice (some ⟨bg,0,none⟩) N bc:=hv';clear hv';subst hv;obtain⟨c1,_⟩:=Bt.cell (i:=Iv.b) (n:=N) h rfl rfl (m:=l) (by omega);have hK1:Kept (bq (dY N) (.slice aa N ac) (.slice (some ⟨bg,0,none⟩) N bc) vr gb).K w (w.alloc (.cells #[.int .i64 l,.slice qa Rt.length qc] 91)):=(Kept.refl _ _).alloc _;have oW:=hR.below (hK1.below (fun b hb=>Bt.ge h hb) hB);have all:=VP (i:=Iv.a) (N:=N) (lc:=qc) (Bt.alloc h (.cells #[.int .i64 l,.slice qa Rt.length qc] 91)) (by simp;omega) rfl oW hin (by omega);have all':Calls Tryz.prog 192 #[.slice aa N ac,.slice qa Rt.length qc] _ _:=all;have hs1:=hK1.cell mP hs;have hx1:=hK1.cell BP hx;have c1':(w.alloc (.cells #[.int .i64 l,.slice qa Rt.length qc] 91)).cell? ⟨bg,l,none⟩=some (.bool (bit X .b l)):=by rw[World.cell?_alloc_past _ _ _ hbl];exact c1
 have j0:(0:Int)<=(l:Int):=Int.natCast_nonneg _;have j1:(l:Int)<(N:Int):=by omega
 have HB:Hid (Bt w B (bq (dY N) (.slice aa N ac) (.slice (some ⟨bg,0,none⟩) N bc) vr gb) X):=h;have HI:Hid (∀s∈Rt,s.1=false->0<=s.2/\s.2<(N:Int)):=hin;have HR1:Hid (fq (w.alloc (.cells #[.int .i64 l,.slice qa Rt.length qc] 91)) B qa Rt):=oW;have HM:Hid (p8 ((l:Int),Rt) X=if bit X .b l&&dK (X .a) Rt then M7 Rt X else X):=by show p8 ((l:Int),Rt) X=_;simp[p8]
 obtain⟨z,hz⟩:∃z,dK (X .a) Rt=z:=⟨_,rfl⟩;obtain⟨y,hy⟩:∃y,bit X .b l=y:=⟨_,rfl⟩;rw[hz]at HM all';rw[hy]at HM c1';clear all hz hy h mP BP hR oW hin c1;cases y with
 |false=>
  go_enter Tryz.func193,Tryz.ntmps193
  go_wp2_with fail
  go_end0
  exact⟨rfl,by rw[HM.out];exact Bt.alloc HB.out _,hK1⟩
 |true=>
  cases z with
  |true=>
   go_enter Tryz.func193,Tryz.ntmps193
   go_wp2_with
    (first
     |(go_at_call 192;refine all'.mono ?_;rintro e w2 ⟨rfl,hb2⟩
       have q0:=(hb2.cell (p:=⟨sx,0,none⟩) (World.block_lt_of_cell? _ _ hs1)).trans hs1;have q1:w2.cell? ⟨w.heap.size,1,none⟩=some (.slice qa Rt.length qc):=(hb2.cell (by simp)).trans (by simp[go_sem]);have hB2:Bt w2 B (bq (dY N) (.slice aa N ac) (.slice (some ⟨bg,0,none⟩) N bc) vr gb) X:=Bt.below (Bt.alloc HB.out _) hb2;have hsz2:w.heap.size+1<=w2.heap.size:=by have:=hb2.size;simpa using this
       have names:=aef (N:=N) (lc:=qc) hB2 (by omega) rfl rfl (HR1.out.below (hb2.mono (by simp;omega))) HI.out (by omega);have dP:Hid (Kept (bq (dY N) (.slice aa N ac) (.slice (some ⟨bg,0,none⟩) N bc) vr gb).K w w2):=hK1.trans (Kept.bP hb2)
       clear hB2 hb2 all' hs1 hx1)
     |(go_at_call 194;refine names.mono ?_;rintro e w3 ⟨rfl,hB3,hK3⟩))
   go_end0
   exact⟨rfl,by rw[HM.out];exact hB3,dP.out.trans hK3⟩
  |false=>
   go_enter Tryz.func193,Tryz.ntmps193
   go_wp2_with
    (go_at_call 192;refine all'.mono ?_;rintro e w2 ⟨rfl,hb2⟩
     have HB2:Hid (Bt w2 B (bq (dY N) (.slice aa N ac) (.slice (some ⟨bg,0,none⟩) N bc) vr gb) X):=Bt.below (Bt.alloc HB.out _) hb2;have dP:Hid (Kept (bq (dY N) (.slice aa N ac) (.slice (some ⟨bg,0,none⟩) N bc) vr gb).K w w2):=hK1.trans (Kept.bP hb2)
     clear hb2 all' hs1 hx1)
   go_end0
   exact⟨rfl,by rw[HM.out];exact HB2.out,dP.out⟩
end
def qb(N:Nat)(Mk:List Bool):Vs
 | .a=>Mk
 | .b=>(List.replicate N false).set 0 (Mk.getD 0 false)
 | .gr=>[true]
 |_=>[]
structure I4(w w1:World)(B N g:Nat)(rv:Value)(Mk:List Bool)(wx:World):Prop where
 below:Below w1.heap.size w1 wx
 size:wx.heap.size=w1.heap.size+3
 rules:wx.cell? ⟨w.heap.size,2,none⟩=some rv
 I5:wx.cell? ⟨w1.heap.size,0,none⟩=some (.slice (some ⟨g,0,none⟩) N N)
 I6:wx.cell? ⟨w1.heap.size+2,0,none⟩=some (.slice (some ⟨w1.heap.size+1,0,none⟩) N N)
 I7:eU wx B (w1.heap.size+1) N ((List.replicate N false).set 0 (Mk.getD 0 false))
structure I8(w w1:World)(B N g:Nat)(rv:Value)(wx:World):Prop where
 below:Below w1.heap.size w1 wx
 size:wx.heap.size=w1.heap.size+3
 rules:wx.cell? ⟨w.heap.size,2,none⟩=some rv
 I5:wx.cell? ⟨w1.heap.size,0,none⟩=some (.slice (some ⟨g,0,none⟩) N N)
 I6:wx.cell? ⟨w1.heap.size+2,0,none⟩=some (.slice (some ⟨w1.heap.size+1,0,none⟩) N N)
 I7:eU wx B (w1.heap.size+1) N (List.replicate N false)
theorem aem{w w1:World}{B N g:Nat}{rv:Value}(hN:N<=maxLen)(hs:w.heap.size<w1.heap.size)(hB:B<=w1.heap.size)(hr:w1.cell? ⟨w.heap.size,2,none⟩=some rv):
 I8 w w1 B N g rv (((w1.alloc (.cells #[.slice (some ⟨g,0,none⟩) N N] 53)).alloc (.cells (madeCells #[.bool false] N) 4)).alloc (.cells #[.slice (some ⟨w1.heap.size+1,0,none⟩) N N] 53)):=by
 refine⟨(((Below.refl _ _).alloc (Nat.le_refl _) _).alloc (by simp) _).alloc (by simp;omega) _,by simp,?_,?_,?_,?_⟩
 ·rw[World.cell?_alloc_past _ _ _ (by simp;omega),World.cell?_alloc_past _ _ _ (by simp;omega),World.cell?_alloc_past _ _ _ hs];exact hr
 ·rw[World.cell?_alloc_past _ _ _ (by simp;omega),World.cell?_alloc_past _ _ _ (by simp)];simp[go_sem]
 ·have:w1.heap.size+2=((w1.alloc (.cells #[.slice (some ⟨g,0,none⟩) N N] 53)).alloc (.cells (madeCells #[.bool false] N) 4)).heap.size:=by simp
  rw[this];simp[go_sem]
 ·have:=KH (w1.alloc (.cells #[.slice (some ⟨g,0,none⟩) N N] 53)) hN
  simp only[World.size_alloc]at this;exact jf (World.ownsRow.alloc this _) (by omega)
theorem I8.ready{w w1 wx:World}{B N g:Nat}{rv:Value}(h:I8 w w1 B N g rv wx)(hs:w.heap.size<w1.heap.size)(Mk:List Bool):I4 w w1 B N g rv Mk (wx.setCell ⟨w1.heap.size+1,0,none⟩ (.bool (Mk.getD 0 false))).drew:=by
 refine⟨(h.below.setCell (by simp) _).drew,by show (wx.setCell _ _).heap.size=_;simp;exact h.size,?_,?_,?_,?_⟩
 ·exact(iE (.inl (by simp only;omega))).trans h.rules
 ·exact(iE (.inl (by simp only;omega))).trans h.I5
 ·exact(iE (.inl (by simp only;omega))).trans h.I6
 ·exact h.I7.set 0 _
theorem aen{w w1 wx:World}{B N g:Nat}{rv:Value}{Mk:List Bool}(h:eU w1 B g N Mk)(hr:I4 w w1 B N g rv Mk wx)(hB:B<=wx.heap.size):Bt (wx.alloc (.cells #[.bool true] 4)) B (bq (dY N) (.slice (some ⟨g,0,none⟩) N N) (.slice (some ⟨w1.heap.size+1,0,none⟩) N N) r9 wx.heap.size) (qb N Mk):=by
 have h0:Bt w1 B (⟨fun _=> .slice (some ⟨g,0,none⟩) N N,fun| .a=>some N|_=>none⟩:dw Iv) (qb N Mk):=by
  refine⟨fun i r hr=> ?_,fun i j a b hij ha hb=> ?_⟩
  ·cases i<;>simp[dw.P]at hr
   subst hr;exact h
  ·cases i<;>simp[dw.P]at ha
   cases j<;>simp[dw.P]at hb;exact absurd rfl hij
 have h1:Bt wx B (bq (fun| .a=>some N| .b=>some N|_=>none) (.slice (some ⟨g,0,none⟩) N N) (.slice (some ⟨w1.heap.size+1,0,none⟩) N N) r9 0) (qb N Mk):=
  Gb .b h0 hr.below rfl hr.I7 (fun b hb=>by simp only[bq,Value.ownBlock,Option.some.injEq]at hb;omega) (fun j hj m hm=>by cases j<;>simp_all [bq])
 refine Gb .gr h1 ((Below.refl _ _).alloc (Nat.le_refl _) _) rfl ?_ (fun b hb=> ?_) (fun j hj m hm=>by cases j<;>simp_all [bq,dY])
 ·exact VQ hB
 ·simp only[bq,Value.ownBlock,Option.some.injEq]at hb
  omega
theorem aeo{T N:Nat}{R:List Ru}(hf:bM T N R){Mk:List Bool}(hl:Mk.length=N)(hM:∀n,hasB Mk n↔gT N R n):rY .gr (dY N) (ZC N R) (qb N Mk) R p8 (qb N Mk):=by
 refine⟨fun i n hd=> ?_,fun i n m hd hm hb=> ?_,fun _ _ _ h=>h,fun hz=>by simp[bit,qb]at hz⟩
 ·cases i<;>simp[dY]at hd<;>subst hd<;>simp[qb,hl]
 ·cases i<;>simp[dY]at hd
  ·trivial
  ·subst hd
   exact(hM m).1 ⟨Int.natCast_nonneg _,by simpa [bit,qb] using hb⟩
  ·subst hd
   by_cases h0:m=0
   ·subst h0
    refine lu (MZ hf _) _ (.inl ⟨rfl,(hM 0).1 ⟨Int.le_refl _,?_⟩⟩);simpa [bit,qb,List.getD,hm] using hb
   ·unfold bit qb at hb
    rw[List.getD,List.getElem?_set_ne (fun e:0=m=>h0 e.symm)]at hb;simp[hm]at hb
def ER(N:Nat):List (Iv×Nat):=(List.range N).map (fun m=>(.a,m))++(List.range N).map fun m=>(.b,m)
theorem aep(N:Nat):∀i n m,i≠Iv.gr->dY N i=some n->m<n->(i,m)∈ER N:=fun i n m hi hd hm=>by
 cases i<;>simp[dY]at hd hi<;>subst hd<;>simp[ER,hm]
theorem aer(N:Nat):∀p∈ER N,p.1≠Iv.gr:=fun p hp=>by
 simp only[ER,List.mem_append,List.mem_map]at hp;rcases hp with⟨_,_,rfl⟩|⟨_,_,rfl⟩<;>simp
theorem aes{w:World}{T N:Nat}{rv:Value}{R:List Ru}(hr:au w w.heap.size rv R)(hm:aD T N R=true):
 Calls Tryz.prog 175 #[.agg #[.int .i64 T,.int .i64 N,rv]] w fun e w'=> ∃g Y,e= .returned (.tuple #[.slice (some ⟨g,0,none⟩) N N,.int .i64 0])/\Below w.heap.size w w'/\eU w' (w.heap.size+1) g N Y/\∀n,hasB Y n↔oI N R n:=by
 have hf:=IZ hm;obtain⟨hT,hN1,hN,hRl,nP⟩:=fV hm;obtain⟨ra,rc,aG⟩:=hr.1;subst aG;have mk:=VR (T:=T) (N:=N) (hr.boxed (.cells #[.int .i64 T,.int .i64 N,.slice ra R.length rc] 26)) hm;simp only[World.size_alloc]at mk;have HR:Hid (au w w.heap.size (.slice ra R.length rc) R):=hr;have HF:Hid (bM T N R):=hf;have HQ:Hid (∀q,q<R.length->(R.getD q (0,[])).2.length<=8):=fun q hq=>(nP q hq).2.2.1;have wK:=Au N (by omega);have hN0:0<N:=by omega
 clear hr hm hf nP
 go_enter Tryz.func175,Tryz.ntmps175
 go_upto_region 5 with
  (go_at_call 174;refine mk.mono ?_;rintro e w1 ⟨g,Mk,rfl,hB1,hrow,VS⟩
   have b1:w1.cell? ⟨w.heap.size,1,none⟩=some (.int .i64 N):=(hB1.cell (by simp)).trans (by simp[go_sem]);have b2:w1.cell? ⟨w.heap.size,2,none⟩=some (.slice ra R.length rc):=(hB1.cell (by simp)).trans (by simp[go_sem]);have hs1:w.heap.size+1<=w1.heap.size:=by have:=hB1.size;simpa using this
   have HX:Hid (Below w.heap.size w w1):=((Below.refl _ _).alloc (Nat.le_refl _) _).trans (hB1.mono (by simp));have m1:(w1.alloc (.cells #[.slice (some ⟨g,0,none⟩) N N] 53)).cell? ⟨w.heap.size,1,none⟩=some (.int .i64 N):=by rw[World.cell?_alloc_past _ _ _ (by omega)];exact b1
   have CB:Hid (eU w1 (w.heap.size+1+1) g N Mk):=hrow;have Nb:Hid (∀n,hasB Mk n↔gT N R n):=VS;have c0:=(hrow.cell (m:=0) hN0).1
   clear hB1 mk hrow VS)
 have hW:=aem (w:=w) (w1:=w1) (B:=w.heap.size+1+1) (N:=N) (g:=g) (rv:= .slice ra R.length rc) (by unfold maxLen;omega) (by omega) (by have:=CB.out.ge (by omega);have:=World.block_lt_of_cell? w1 _ c0;simp only at this;omega) b2;generalize (((w1.alloc (.cells #[.slice (some ⟨g,0,none⟩) N N] 53)).alloc (.cells (madeCells #[.bool false] N) 4)).alloc (.cells #[.slice (some ⟨w1.heap.size+1,0,none⟩) N N] 53))=W0 at hW⊢;have hgl:=World.block_lt_of_cell? w1 _ c0;simp only at hgl;have d0:W0.cell? ⟨g,0,none⟩=some (.bool (Mk.getD 0 false)):=(hW.below.cell (p:=⟨g,0,none⟩) hgl).trans c0;have d1:=hW.I5;have d2:W0.cell? ⟨w1.heap.size+1+1,0,none⟩=_:=hW.I6;obtain⟨d3,d4⟩:=hW.I7.cell (m:=0) hN0;have HW:Hid (I8 w w1 (w.heap.size+1+1) N g (.slice ra R.length rc) W0):=hW;obtain⟨x,hx⟩:∃x,Mk.getD 0 false=x:=⟨_,rfl⟩;have HXx:Hid (Mk.getD 0 false=x):=hx;rw[hx]at d0;have j1:(0:Int)<(N:Int):=by omega
 clear hW m1 b1 b2 c0 wK hx
 go_cut [] from 18 to 27 (fun wx=>I4 w w1 (w.heap.size+1+1) N g (.slice ra R.length rc) Mk wx)
 case first=>
  refine sM 5 (by kernel_rfl) (by kernel_rfl) ?_;simp only[List.take_succ_cons,List.take_zero,List.drop_succ_cons,List.drop_zero]
  repeat still_step
  refine wpStill_nil ?_
  go_wp2_with fail
  go_meet
  case rel=>have:=HW.out.ready (by omega) Mk;rw[HXx.out]at this;exact this
 case rest=>
  have r2:=hcut.rules;have HC:Hid (I4 w w1 (w.heap.size+1+1) N g (.slice ra R.length rc) Mk wc):=hcut;clear hcut d0 d1 d2 d3 d4
  go_wp2_with
   (go_at_call 51
    have hsz:=HC.out.size;have kz:=aen CB.out HC.out (by omega);have zC:Below w1.heap.size w1 (wc.alloc (.cells #[.bool true] 4)):=HC.out.below.alloc (by omega) _;have nD:au (wc.alloc (.cells #[.bool true] 4)) (w.heap.size+1+1) (.slice ra R.length rc) R:=((HR.out.below HX.out).below (zC.mono (by omega))).mono (by omega);have mP:¬(bq (dY N) (.slice (some ⟨g,0,none⟩) N N) (.slice (some ⟨w1.heap.size+1,0,none⟩) N N) r9 wc.heap.size).K (w1.heap.size+2):=bq.gU fun i n hd=>by cases i<;>simp[dY]at hd<;>simp[bq,Value.ownBlock]<;>omega
    have BP:¬(bq (dY N) (.slice (some ⟨g,0,none⟩) N N) (.slice (some ⟨w1.heap.size+1,0,none⟩) N N) r9 wc.heap.size).K w1.heap.size:=bq.gU fun i n hd=>by cases i<;>simp[dY]at hd<;>simp[bq,Value.ownBlock]<;>omega
    have hsv:(wc.alloc (.cells #[.bool true] 4)).cell? ⟨w1.heap.size+2,0,none⟩=some (.slice (some ⟨w1.heap.size+1,0,none⟩) N N):=(World.cell?_alloc_past _ _ _ (by omega)).trans HC.out.I6;have hxv:(wc.alloc (.cells #[.bool true] 4)).cell? ⟨w1.heap.size,0,none⟩=some (.slice (some ⟨g,0,none⟩) N N):=(World.cell?_alloc_past _ _ _ (by omega)).trans HC.out.I5
    refine(LG (c:=bq (dY N) (.slice (some ⟨g,0,none⟩) N N) (.slice (some ⟨w1.heap.size+1,0,none⟩) N N) r9 wc.heap.size) (gr:=Iv.gr) (B:=w.heap.size+1+1) (X:=qb N Mk) (R:=R) (f:=p8) (Head:=rY .gr (dY N) (ZC N R) (qb N Mk) R p8) (kR:=EP .gr (ER N))
     kz (by omega) (IY rfl) nD (by omega) (fun k hk w2 Y qa qc hK Na Ei hqc=> ?_) (fun args w=>by simp[callFunc,Tryz.func193,Tryz.f193 ]) (aeo HF.out CB.out.len Nb.out)
     (rY.next rfl (aep N) (aer N) (fun _=>trivial) (fun q hq Y hY=>(VO HF.out (uD hq) hY).1) (fun q hq Y hY hs=>aed HF.out (uD hq) hY hs))).mono ?_
    ·have e:∀a b c d:Value,#[a,b]++ #[c,d]= #[a,b,c,d]:=fun a b c d=>by simp
     rw[e];have hs:=hK.size;simp only[World.size_alloc]at hs;exact ael Na (by omega) (hK.cell mP hsv) mP (hK.cell BP hxv) BP HF.out (uD hk) (HQ.out k hk) Ei
    rintro e w3 ⟨rfl,Y,hH,hg,hB3,hK3⟩;have n0:w3.cell? ⟨w1.heap.size+1+1,0,none⟩=_:=hK3.cell mP hsv;have HB3:Hid (Bt w3 (w.heap.size+1+1) (bq (dY N) (.slice (some ⟨g,0,none⟩) N N) (.slice (some ⟨w1.heap.size+1,0,none⟩) N N) r9 wc.heap.size) Y):=hB3
    have HL:Hid (∀n,hasB (Y .b) n↔oI N R n):=aee HF.out (fun n hn=>(Nb.out n).2 hn) (fun h0=>by
     have:=((Nb.out 0).2 h0).2
     simpa [bit,qb,List.getD,hN0] using this) hH hg
    have HB:Hid (Below w.heap.size w w3):=HX.out.trans ((zC.mono (by omega)).trans ((hK3.below (fun b hb=>Bt.ge hB3 hb) (by simp;omega)).mono (by omega)))
    clear kz zC nD mP BP hsv hxv hH hg hB3 hK3)
  refine bodyPost_ret (v:= .tuple #[.slice (some ⟨w1.heap.size+1,0,none⟩) N N,.int .i64 0]) (by simp[results,Tryz.results175,go_sem]) rfl ⟨w1.heap.size+1,Y .b,rfl,HB.out,jf (Bt.own (i:=Iv.b) HB3.out rfl) (by omega),HL.out⟩
end Go.Proofs.YtblkkhfdeaaidaaGreatDoor
